package query_test

import (
	"encoding/binary"
	"math"
	"math/rand"
	"runtime"
	"slices"
	"strings"
	"testing"

	"spoor/api"
	"spoor/query"
)

// The calls have the signatures of doc/28-query.md.
var (
	_ func(api.Ask) api.Errno             = query.CheckAsk
	_ func(api.Ask) (string, api.Errno)   = query.PutAsk
	_ func(string) (api.Ask, api.Errno)   = query.GetAsk
	_ func(api.Reply) api.Errno           = query.CheckReply
	_ func(api.Reply) (string, api.Errno) = query.PutReply
	_ func(string) (api.Reply, api.Errno) = query.GetReply
)

// What follows is plain, by the document's words, and by Go's own numbers' bytes, which are those of doc/01-num.md.

func plainAddr(six bool, a api.Addr) bool {
	return six || a.Hi == 0 && a.Lo < 1<<32
}

func plainRouter(id int) bool { return 0 <= id && id <= 1<<20 }
func plainTime(t int64) bool  { return 0 <= t && t <= 1<<40 }

// plainAsk tells whether a question is right, kind by kind.
func plainAsk(a api.Ask) bool {
	switch a.Kind {
	case api.AskVerdict, api.AskTrace:
		return plainRouter(a.Router) && plainAddr(a.Six, a.Addr) && plainTime(a.From) && a.To == 0
	case api.AskVerdicts:
		return plainRouter(a.Router) && plainAddr(a.Six, a.Addr) && plainTime(a.From) && a.From <= a.To && a.To <= 1<<40
	case api.AskDiff:
		return plainRouter(a.Router) && a.Addr == api.Addr{} && plainTime(a.From) && plainTime(a.To)
	case api.AskFates:
		return a.Router == 0 && plainAddr(a.Six, a.Addr) && plainTime(a.From) && a.To == 0
	case api.AskStatus:
		return a == api.Ask{Kind: api.AskStatus}
	}
	return false
}

// plainNums is numbers' bytes, one behind the other.
func plainNums(l ...uint64) string {
	var b []byte
	for _, n := range l {
		b = binary.AppendUvarint(b, n)
	}
	return string(b)
}

// plainAskBytes is a right question's bytes, kind by kind.
func plainAskBytes(a api.Ask) string {
	kind, mark, router := string(rune(a.Kind)), "\x04", plainNums(uint64(a.Router))
	if a.Six {
		mark = "\x06"
	}
	to, from, dest := plainNums(uint64(a.To)), plainNums(uint64(a.From)), plainNums(a.Addr.Hi, a.Addr.Lo)
	switch a.Kind {
	case api.AskVerdict, api.AskTrace:
		return kind + router + mark + dest + from
	case api.AskVerdicts:
		return kind + router + mark + dest + from + to
	case api.AskDiff:
		return kind + router + mark + from + to
	case api.AskFates:
		return kind + mark + dest + from
	}
	return kind
}

// plainReply tells whether an answer is right.
func plainReply(r api.Reply) bool {
	is := 0 <= r.Why && r.Why <= 15 && len(r.Eras) <= 1<<10 && len(r.Routers) <= 1<<10 && len(r.Spans) <= 1<<10 && len(r.Nums) <= 1<<4
	if r.Why != 0 && len(r.Eras)+len(r.Routers)+len(r.Spans)+len(r.Nums) > 0 {
		return false
	}
	for _, e := range r.Eras {
		is = is && plainTime(e.Ivl.From) && e.Ivl.From <= e.Ivl.To && plainTime(e.Ivl.To)
		is = is && 1 <= e.Verdict.Kind && e.Verdict.Kind <= 4 && plainRouter(e.Verdict.At)
	}
	for _, id := range r.Routers {
		is = is && plainRouter(id)
	}
	return is
}

// plainReplyBytes is a right answer's bytes.
func plainReplyBytes(r api.Reply) string {
	if r.Why != api.OK {
		return string(rune(r.Why))
	}
	l := []uint64{0, uint64(len(r.Eras))}
	for _, e := range r.Eras {
		l = append(l, uint64(e.Ivl.From), uint64(e.Ivl.To), uint64(e.Verdict.Kind), uint64(e.Verdict.At))
	}
	l = append(l, uint64(len(r.Routers)))
	for _, id := range r.Routers {
		l = append(l, uint64(id))
	}
	l = append(l, uint64(len(r.Spans)))
	for _, s := range r.Spans {
		l = append(l, s.From.Hi, s.From.Lo, s.To.Hi, s.To.Lo)
	}
	l = append(l, uint64(len(r.Nums)))
	for _, n := range r.Nums {
		l = append(l, plainZig(n))
	}
	return plainNums(l...)
}

// plainZig is 2n, if n is 0 or more, else -2n - 1.
func plainZig(n int64) uint64 {
	if n >= 0 {
		return 2 * uint64(n)
	}
	return 2*uint64(-(n+1)) + 1
}

func sameReply(a, b api.Reply) bool {
	return a.Why == b.Why && slices.Equal(a.Eras, b.Eras) && slices.Equal(a.Routers, b.Routers) && slices.Equal(a.Spans, b.Spans) && slices.Equal(a.Nums, b.Nums)
}

func emptyReply(r api.Reply) bool {
	return r.Why == api.OK && len(r.Eras)+len(r.Routers)+len(r.Spans)+len(r.Nums) == 0
}

// askAsPlain holds all calls of a question, right or not, against the plain forms.
func askAsPlain(t *testing.T, a api.Ask) {
	t.Helper()
	s, why := query.PutAsk(a)
	if !plainAsk(a) {
		if no := query.CheckAsk(a); no != api.ErrForm || why != api.ErrForm || s != "" {
			t.Fatalf("%v: Check error %d, Put %x, error %d", a, no, s, why)
		}
		return
	}
	if no := query.CheckAsk(a); no != api.OK || why != api.OK || s != plainAskBytes(a) {
		t.Fatalf("%v: Check error %d, Put %x, error %d, not %x", a, no, s, why, plainAskBytes(a))
	}
	if b, why := query.GetAsk(s); b != a || why != api.OK {
		t.Fatalf("Get of %x: %v, error %d, not %v", s, b, why, a)
	}
}

// replyAsPlain holds all calls of an answer, right or not, against the plain forms.
func replyAsPlain(t *testing.T, r api.Reply) {
	t.Helper()
	s, why := query.PutReply(r)
	if !plainReply(r) {
		if no := query.CheckReply(r); no != api.ErrForm || why != api.ErrForm || s != "" {
			t.Fatalf("%v: Check error %d, Put %x, error %d", r, no, s, why)
		}
		return
	}
	if no := query.CheckReply(r); no != api.OK || why != api.OK || s != plainReplyBytes(r) {
		t.Fatalf("%v: Check error %d, Put %x, error %d, not %x", r, no, s, why, plainReplyBytes(r))
	}
	if b, why := query.GetReply(s); !sameReply(b, r) || why != api.OK {
		t.Fatalf("Get of %x: %v, error %d, not %v", s, b, why, r)
	}
}

// anyAsked reads bytes as a question without asking much of them: of all questions it may be the only one whose bytes they are.
func anyAsked(s string) (api.Ask, bool) {
	if s == "" {
		return api.Ask{}, false
	}
	a, l := api.Ask{Kind: api.AskKind(s[0])}, []byte(s[1:])
	num := func() uint64 {
		n, many := binary.Uvarint(l)
		l = l[max(many, 0):]
		return n
	}
	if k := a.Kind; k >= api.AskVerdict && k <= api.AskDiff {
		a.Router = int(num())
	}
	if a.Kind != api.AskStatus && len(l) > 0 {
		a.Six = l[0] == 6
		l = l[1:]
	}
	if a.Kind != api.AskStatus && a.Kind != api.AskDiff {
		a.Addr = api.Addr{Hi: num(), Lo: num()}
	}
	if a.Kind != api.AskStatus {
		a.From = int64(num())
	}
	if a.Kind == api.AskVerdicts || a.Kind == api.AskDiff {
		a.To = int64(num())
	}
	return a, plainAsk(a) && plainAskBytes(a) == s
}

// anyReplied reads bytes as an answer likewise.
func anyReplied(s string) (api.Reply, bool) {
	if s == "" {
		return api.Reply{}, false
	}
	if s[0] != 0 {
		return api.Reply{Why: api.Errno(s[0])}, len(s) == 1 && s[0] <= 15
	}
	l := []byte(s[1:])
	num := func() uint64 {
		n, many := binary.Uvarint(l)
		l = l[max(many, 0):]
		return n
	}
	many := func() uint64 { return min(num(), 2000) }
	var r api.Reply
	for range many() {
		r.Eras = append(r.Eras, api.Era{Ivl: api.Ivl{From: int64(num()), To: int64(num())}, Verdict: api.Verdict{Kind: api.VerdictKind(num()), At: int(num())}})
	}
	for range many() {
		r.Routers = append(r.Routers, int(num()))
	}
	for range many() {
		r.Spans = append(r.Spans, api.Span{From: api.Addr{Hi: num(), Lo: num()}, To: api.Addr{Hi: num(), Lo: num()}})
	}
	for range many() {
		n := num()
		r.Nums = append(r.Nums, int64(n>>1))
		if n%2 == 1 {
			r.Nums[len(r.Nums)-1] = -int64(n>>1) - 1
		}
	}
	return r, plainReply(r) && plainReplyBytes(r) == s
}

// readAsPlain holds what is read of any bytes against the plain forms, and answers whether they are a question's, and an answer's.
func readAsPlain(t *testing.T, s string) (bool, bool) {
	t.Helper()
	a, is := anyAsked(s)
	if b, why := query.GetAsk(s); is && (b != a || why != api.OK) || !is && (b != (api.Ask{}) || why != api.ErrCode) {
		t.Fatalf("GetAsk(%x): %v, error %d, and it is %t of %v", s, b, why, is, a)
	}
	r, was := anyReplied(s)
	if b, why := query.GetReply(s); was && (!sameReply(b, r) || why != api.OK) || !was && (!emptyReply(b) || why != api.ErrCode) {
		t.Fatalf("GetReply(%x): %v, error %d, and it is %t of %v", s, b, why, was, r)
	}
	return is, was
}

// Samples.

var (
	everyRouter = []int{0, 4, 300, 1<<20 - 1, 1 << 20, 1<<20 + 1, -1, math.MinInt, math.MaxInt}
	everyTime   = []int64{0, 1, 127, 128, 1<<40 - 1, 1 << 40, 1<<40 + 1, -1, math.MinInt64, math.MaxInt64}
	everyAddr   = []api.Addr{{}, {Lo: 300}, {Lo: math.MaxUint32}, {Lo: 1 << 32}, {Hi: 1}, {Hi: 1, Lo: 7}, {Lo: math.MaxUint64}, {Hi: math.MaxUint64, Lo: math.MaxUint64}}
)

// asks are questions of all kinds, and of some that are none, right or not, at all edges.
func asks() []api.Ask {
	var l []api.Ask
	for _, kind := range []api.AskKind{api.AskNone, api.AskVerdict, api.AskTrace, api.AskVerdicts, api.AskDiff, api.AskFates, api.AskStatus, api.AskCount, 128, 129, 255} {
		for _, router := range everyRouter {
			for _, a := range everyAddr {
				for _, from := range everyTime {
					for _, to := range everyTime {
						for _, six := range []bool{false, true} {
							l = append(l, api.Ask{Kind: kind, Router: router, Six: six, Addr: a, From: from, To: to})
						}
					}
				}
			}
		}
	}
	return l
}

// rightAsks are those of them that are right.
func rightAsks() []api.Ask {
	return slices.DeleteFunc(asks(), func(a api.Ask) bool { return !plainAsk(a) })
}

func era(from, to int64, kind api.VerdictKind, at int) api.Era {
	return api.Era{Ivl: api.Ivl{From: from, To: to}, Verdict: api.Verdict{Kind: kind, At: at}}
}

// eras are right ones, and others.
func eras() []api.Era {
	var l []api.Era
	for _, from := range everyTime {
		for _, to := range everyTime {
			l = append(l, era(from, to, api.VerdictLost, 4))
		}
	}
	for _, kind := range []api.VerdictKind{api.VerdictNone, api.VerdictDelivered, api.VerdictDiscarded, api.VerdictLost, api.VerdictLooping, api.VerdictCount, 77, 255} {
		for _, router := range everyRouter {
			l = append(l, era(5, 9, kind, router))
		}
	}
	return l
}

// spans are any ones: no kind of addresses is named that they could be of.
func spans() []api.Span {
	var l []api.Span
	for _, from := range everyAddr {
		for _, to := range everyAddr {
			l = append(l, api.Span{From: from, To: to})
		}
	}
	return l
}

var everyNum = []int64{0, -1, 1, -3, 63, 64, -64, -65, 1 << 40, math.MinInt64, math.MaxInt64, math.MinInt64 + 1}

// replies are answers, right or not, at all edges.
func replies() []api.Reply {
	var l []api.Reply
	for why := api.Errno(-2); why < 20; why++ {
		l = append(l, api.Reply{Why: why})
	}
	for _, why := range []api.Errno{256, 257, 271, math.MinInt, math.MaxInt} {
		l = append(l, api.Reply{Why: why})
	}
	for _, why := range []api.Errno{api.OK, api.ErrRange, api.ErrExpired, -1, 16} {
		l = append(l, api.Reply{Why: why, Eras: []api.Era{era(5, 9, api.VerdictLost, 4)}}, api.Reply{Why: why, Routers: []int{0}},
			api.Reply{Why: why, Spans: make([]api.Span, 1)}, api.Reply{Why: why, Nums: []int64{0}},
			api.Reply{Why: why, Eras: []api.Era{}, Routers: make([]int, 0, 4), Spans: []api.Span{}, Nums: []int64{}})
	}
	for _, e := range eras() {
		good := era(0, 0, api.VerdictDelivered, 0)
		l = append(l, api.Reply{Eras: []api.Era{e}}, api.Reply{Eras: []api.Era{e, good}}, api.Reply{Eras: []api.Era{good, good, e}, Nums: []int64{7}})
	}
	for _, id := range everyRouter {
		l = append(l, api.Reply{Routers: []int{id}}, api.Reply{Routers: []int{7, 7, id}}, api.Reply{Routers: []int{id, 0}, Spans: make([]api.Span, 2)})
	}
	for _, s := range spans() {
		l = append(l, api.Reply{Spans: []api.Span{s}}, api.Reply{Spans: []api.Span{{}, s, s}, Routers: []int{5}})
	}
	for _, n := range everyNum {
		l = append(l, api.Reply{Nums: []int64{n}}, api.Reply{Nums: []int64{7, n}, Spans: make([]api.Span, 1)})
	}
	return append(l, api.Reply{Eras: []api.Era{era(5, 9, api.VerdictLooping, 1<<20)}, Routers: []int{4, 3, 4}, Spans: spans()[:3], Nums: everyNum})
}

func rightReplies() []api.Reply {
	return slices.DeleteFunc(replies(), func(r api.Reply) bool { return !plainReply(r) })
}

// many is a list of so many parts alike.
func many[T any](part T, n int) []T {
	return slices.Repeat([]T{part}, n)
}

// longReplies are answers at, and beyond, the limits of their lists.
func longReplies() []api.Reply {
	e, s := era(1, 1<<40, api.VerdictDiscarded, 1<<20), api.Span{From: everyAddr[7], To: everyAddr[7]}
	l := []api.Reply{{Eras: many(e, 1024), Routers: many(1<<20, 1024), Spans: many(s, 1024), Nums: many[int64](math.MinInt64, 16)}}
	for _, n := range []int{127, 128, 1023, 1024, 1025, 2048, 1 << 16} {
		l = append(l, api.Reply{Eras: many(e, n)}, api.Reply{Routers: many(300, n)}, api.Reply{Spans: many(s, n)}, api.Reply{Routers: []int{4}, Spans: many(s, n), Nums: []int64{4}})
	}
	for _, n := range []int{15, 16, 17, 18, 1024} {
		l = append(l, api.Reply{Nums: many[int64](-3, n)}, api.Reply{Eras: []api.Era{e}, Nums: many[int64](0, n)})
	}
	return l
}

// 28.1

func TestExamples(t *testing.T) {
	if s, why := query.PutAsk(api.Ask{Kind: api.AskStatus}); s != "\x06" || why != api.OK {
		t.Errorf("AskStatus: %x, error %d", s, why)
	}
	if s, why := query.PutReply(api.Reply{Why: api.ErrExpired}); s != "\x0f" || why != api.OK {
		t.Errorf("ErrExpired: %x, error %d", s, why)
	}
}

func TestAsksByHand(t *testing.T) {
	four, six := api.Addr{Lo: 300}, api.Addr{Hi: 1 << 63, Lo: 5}
	for _, c := range []struct {
		a api.Ask
		s string
	}{
		{api.Ask{Kind: api.AskVerdict, Router: 4, Addr: four, From: 5}, "\x01\x04\x04\x00\xac\x02\x05"},
		{api.Ask{Kind: api.AskVerdict}, "\x01\x00\x04\x00\x00\x00"},
		{api.Ask{Kind: api.AskTrace, Router: 1 << 20, Six: true, Addr: six, From: 1 << 40}, "\x02\x80\x80\x40\x06\x80\x80\x80\x80\x80\x80\x80\x80\x80\x01\x05\x80\x80\x80\x80\x80\x20"},
		{api.Ask{Kind: api.AskVerdicts, Router: 4, Addr: four, From: 5, To: 9}, "\x03\x04\x04\x00\xac\x02\x05\x09"},
		{api.Ask{Kind: api.AskVerdicts, Router: 4, Six: true, From: 5, To: 5}, "\x03\x04\x06\x00\x00\x05\x05"},
		{api.Ask{Kind: api.AskDiff, Router: 300, Six: true, From: 9, To: 5}, "\x04\xac\x02\x06\x09\x05"},
		{api.Ask{Kind: api.AskFates, Addr: four, From: 5}, "\x05\x04\x00\xac\x02\x05"},
		{api.Ask{Kind: api.AskStatus}, "\x06"},
	} {
		if s, why := query.PutAsk(c.a); s != c.s || why != api.OK || query.CheckAsk(c.a) != api.OK {
			t.Errorf("%v: %x, error %d, not %x", c.a, s, why, c.s)
		}
		if a, why := query.GetAsk(c.s); a != c.a || why != api.OK {
			t.Errorf("%x: %v, error %d, not %v", c.s, a, why, c.a)
		}
	}
}

func TestRepliesByHand(t *testing.T) {
	for _, c := range []struct {
		r api.Reply
		s string
	}{
		{api.Reply{}, "\x00\x00\x00\x00\x00"},
		{api.Reply{Why: api.ErrRange}, "\x01"},
		{api.Reply{Eras: []api.Era{era(5, 9, api.VerdictLost, 4)}, Nums: []int64{-3}}, "\x00\x01\x05\x09\x03\x04\x00\x00\x01\x05"},
		{api.Reply{Routers: []int{5, 300, 5}}, "\x00\x00\x03\x05\xac\x02\x05\x00\x00"},
		{api.Reply{Spans: []api.Span{{From: api.Addr{Hi: 1, Lo: 2}, To: api.Addr{Hi: 3, Lo: 300}}}}, "\x00\x00\x00\x01\x01\x02\x03\xac\x02\x00"},
		{api.Reply{Spans: []api.Span{{From: api.Addr{Lo: 9}}}}, "\x00\x00\x00\x01\x00\x09\x00\x00\x00"}, // no right span, but four numbers
		{api.Reply{Nums: []int64{0, -1, 1, math.MinInt64}}, "\x00\x00\x00\x00\x04\x00\x01\x02\xff\xff\xff\xff\xff\xff\xff\xff\xff\x01"},
	} {
		if s, why := query.PutReply(c.r); s != c.s || why != api.OK || query.CheckReply(c.r) != api.OK {
			t.Errorf("%v: %x, error %d, not %x", c.r, s, why, c.s)
		}
		if r, why := query.GetReply(c.s); !sameReply(r, c.r) || why != api.OK {
			t.Errorf("%x: %v, error %d, not %v", c.s, r, why, c.r)
		}
	}
}

func TestAsksByTheWords(t *testing.T) {
	all := asks()
	for _, a := range all {
		askAsPlain(t, a)
	}
	if right := len(rightAsks()); right < 1000 || right == len(all) {
		t.Errorf("%d of %d questions are right", right, len(all))
	}
}

func TestRepliesByTheWords(t *testing.T) {
	for _, r := range append(replies(), longReplies()...) {
		replyAsPlain(t, r)
	}
}

func TestRepliesByChance(t *testing.T) {
	r := rand.New(rand.NewSource(281))
	for range 4000 {
		x := api.Reply{Eras: someOf(r, eras(), 3), Routers: someOf(r, everyRouter, 3), Spans: someOf(r, spans(), 4), Nums: someOf(r, everyNum, 18)}
		if r.Intn(2) == 0 {
			x.Eras = slices.DeleteFunc(x.Eras, func(e api.Era) bool { return !plainReply(api.Reply{Eras: []api.Era{e}}) })
			x.Routers = slices.DeleteFunc(x.Routers, func(id int) bool { return !plainRouter(id) })
		}
		replyAsPlain(t, x)
	}
}

// someOf is a few things of a list, by chance.
func someOf[T any](r *rand.Rand, l []T, most int) []T {
	var some []T
	for range r.Intn(most + 1) {
		some = append(some, l[r.Intn(len(l))])
	}
	return some
}

// letters are bytes that tell kinds, marks, lists' lengths and numbers, and some that tell none.
const letters = "\x00\x01\x02\x03\x04\x05\x06\x07\x0f\x10\x80\x81\xff"

func TestAllShortBytes(t *testing.T) {
	asked, replied := 0, 0
	var hold func(s, letters string, most int)
	hold = func(s, letters string, most int) {
		is, was := readAsPlain(t, s)
		if is {
			asked++
		}
		if was {
			replied++
		}
		for i := range len(letters) {
			if len(s) < most {
				hold(s+letters[i:i+1], letters, most)
			}
		}
	}
	hold("", letters, 5)
	hold("\x00", "\x00\x01\x02\x80", 9)
	for b := range 256 {
		readAsPlain(t, string([]byte{byte(b)}))
		readAsPlain(t, string([]byte{4, 0, byte(b), 5, 9}))
		readAsPlain(t, string([]byte{0, byte(b), 0, 0, 0}))
	}
	if asked < 2000 || replied < 200 {
		t.Errorf("only %d are questions', %d answers'", asked, replied)
	}
}

// turns are bytes that are nearly some right ones: cut off, gone on with, and turned anywhere, a byte put in, or left out; and numbers in more bytes than they need.
func turns(s string) []string {
	l := []string{s + "\x00", s + "\x80", s + s}
	for i := range len(s) {
		l = append(l, s[:i], s[i:], s[:i]+s[i+1:], s[:i]+"\x00"+s[i:], s[:i]+"\x01"+s[i:], s[:i]+"\x80"+s[i:])
		for _, b := range []byte{0, 1, 4, 5, 6, s[i] ^ 1, s[i] ^ 2, s[i] ^ 0x80, s[i] + 1, s[i] - 1, 0x7f, 0xff} {
			l = append(l, s[:i]+string([]byte{b})+s[i+1:])
		}
		if s[i] < 0x80 {
			l = append(l, s[:i]+string([]byte{s[i] | 0x80, 0})+s[i+1:])
		}
	}
	return l
}

func TestBytesThatAreTurned(t *testing.T) {
	for i, a := range rightAsks() {
		if i%17 > 0 {
			continue
		}
		for _, s := range turns(plainAskBytes(a)) {
			readAsPlain(t, s)
		}
	}
	for i, r := range rightReplies() {
		if i%3 > 0 {
			continue
		}
		for _, s := range turns(plainReplyBytes(r)) {
			readAsPlain(t, s)
		}
	}
}

// Numbers that are too great for what they are of are no one's bytes, and no other number's.
func TestGreatNumbersAreRefused(t *testing.T) {
	for _, n := range []uint64{1<<20 + 1, 1<<32 + 1, 1<<40 + 1, 1<<63 + 1, math.MaxUint64, 1<<64 - 256, 1<<32 + 5, 1<<8 + 1, 1<<16 + 1, 1 << 63} {
		for _, s := range []string{
			plainNums(1, n, 4, 0, 0, 0), plainNums(1, 4, n, 0, 0, 0), plainNums(n, 4, 4, 0, 0, 0), plainNums(1, 4, 4, 0, 0, n), plainNums(1, 4, 4, n, 0, 0), plainNums(1, 4, 4, 0, n, 0),
			plainNums(3, 4, 4, 0, 0, 5, n), plainNums(4, 4, 6, n, 0), plainNums(4, 4, 6, 0, n), plainNums(5, 4, 0, 0, n),
			plainNums(n), plainNums(n, 0, 0, 0, 0), plainNums(0, 1, n, n, 3, 4, 0, 0, 0), plainNums(0, 1, 5, n, 3, 4, 0, 0, 0), plainNums(0, 1, 5, 9, n, 4, 0, 0, 0), plainNums(0, 1, 5, 9, 3, n, 0, 0, 0),
			plainNums(0, 0, 1, n, 0, 0),
		} {
			readAsPlain(t, s)
		}
	}
	for _, n := range []uint64{17, 1025, 1 << 20, 1 << 40, 1 << 63, math.MaxUint64} {
		for _, s := range []string{plainNums(0, n), plainNums(0, 0, n), plainNums(0, 0, 0, n), plainNums(0, 0, 0, 0, n)} {
			for _, behind := range []string{"", strings.Repeat("\x00", 9), strings.Repeat("\x05", 5000)} {
				if r, why := query.GetReply(s + behind); !emptyReply(r) || why != api.ErrCode {
					t.Fatalf("a list of %d: %v, error %d", n, r, why)
				}
			}
		}
	}
}

func TestTooLongListsAreRefused(t *testing.T) {
	for _, r := range longReplies() {
		s := plainReplyBytes(r)
		if b, why := query.GetReply(s); plainReply(r) != (why == api.OK) || plainReply(r) != sameReply(b, r) || !plainReply(r) && (why != api.ErrCode || !emptyReply(b)) {
			t.Fatalf("of %d, %d, %d, %d parts: error %d", len(r.Eras), len(r.Routers), len(r.Spans), len(r.Nums), why)
		}
	}
}

// What is read of many bytes is not copied again and again.
func TestManyBytes(t *testing.T) {
	for _, s := range []string{strings.Repeat("\x00", 1<<22), strings.Repeat("\x80", 1<<22), "\x00\x80\x08" + strings.Repeat("\x01", 1<<22), plainReplyBytes(longReplies()[0]) + strings.Repeat("\x01", 1<<22)} {
		readAsPlain(t, s)
	}
}

// 28.2

// roomy is a list with room behind it, which is anyone's.
func roomy[T any](l []T) []T {
	return append(slices.Clone(l), make([]T, 4)...)[:len(l)]
}

// sameList tells whether a list with room is what it was, the room behind it, too.
func sameList[T comparable](l, want []T) bool {
	var none T
	return slices.Equal(l, want) && !slices.ContainsFunc(l[:cap(l)][len(l):], func(x T) bool { return x != none })
}

// spoil turns all that a list has room for.
func spoil[T any](l []T, wrong T) {
	for i := range l[:cap(l)] {
		l[:cap(l)][i] = wrong
	}
}

func spoilReply(r api.Reply) {
	spoil(r.Eras, era(-7, -7, 77, -7))
	spoil(r.Routers, -7)
	spoil(r.Spans, api.Span{From: everyAddr[7]})
	spoil(r.Nums, -7)
}

func TestAnswersAreNewMemory(t *testing.T) {
	for _, plain := range replies() {
		r := api.Reply{Why: plain.Why, Eras: roomy(plain.Eras), Routers: roomy(plain.Routers), Spans: roomy(plain.Spans), Nums: roomy(plain.Nums)}
		s, why := query.PutReply(r)
		query.CheckReply(r)
		if !sameList(r.Eras, plain.Eras) || !sameList(r.Routers, plain.Routers) || !sameList(r.Spans, plain.Spans) || !sameList(r.Nums, plain.Nums) {
			t.Fatalf("%v was turned into %v", plain, r)
		}
		spoilReply(r)
		if again, no := query.PutReply(plain); again != s || no != why {
			t.Fatalf("%v: %x, then %x", plain, s, again)
		}
		if why != api.OK {
			continue
		}
		a, _ := query.GetReply(s)
		b, _ := query.GetReply(s)
		spoilReply(b)
		if c, _ := query.GetReply(s); !sameReply(a, plain) || !sameReply(c, plain) {
			t.Fatalf("%x: %v and %v share memory with another answer", s, a, c)
		}
	}
}

// No two lists of one answer share memory, even the room behind them.
func TestListsOfOneAnswerShareNothing(t *testing.T) {
	want := api.Reply{Eras: []api.Era{era(5, 9, api.VerdictLost, 4)}, Routers: []int{4, 7, 4}, Spans: spans()[:3], Nums: []int64{-3, 5, 1}}
	s := plainReplyBytes(want)
	for _, wrong := range []func(api.Reply){
		func(r api.Reply) { spoil(r.Eras, era(-7, -7, 77, -7)) },
		func(r api.Reply) { spoil(r.Routers, -7) },
		func(r api.Reply) { spoil(r.Spans, api.Span{From: everyAddr[7]}) },
		func(r api.Reply) { spoil(r.Nums, -7) },
	} {
		r, _ := query.GetReply(s)
		wrong(r)
		unlike := 0
		for _, is := range []bool{slices.Equal(r.Eras, want.Eras), slices.Equal(r.Routers, want.Routers), slices.Equal(r.Spans, want.Spans), slices.Equal(r.Nums, want.Nums)} {
			if !is {
				unlike++
			}
		}
		if unlike != 1 {
			t.Errorf("%d lists were turned: %v", unlike, r)
		}
	}
}

// 28.3

func TestThereAndBack(t *testing.T) {
	for _, a := range rightAsks() {
		s, _ := query.PutAsk(a)
		if b, why := query.GetAsk(s); b != a || why != api.OK {
			t.Fatalf("%v: %x, read as %v, error %d", a, s, b, why)
		}
	}
	r := rand.New(rand.NewSource(283))
	for range 200000 {
		b := make([]byte, r.Intn(9))
		for i := range b {
			b[i] = letters[r.Intn(len(letters))]
		}
		s := string(b)
		if a, why := query.GetAsk(s); why == api.OK {
			if back, why := query.PutAsk(a); back != s || why != api.OK {
				t.Fatalf("%x: %v, put as %x, error %d", s, a, back, why)
			}
		}
		if a, why := query.GetReply(s); why == api.OK {
			if back, why := query.PutReply(a); back != s || why != api.OK {
				t.Fatalf("%x: %v, put as %x, error %d", s, a, back, why)
			}
		}
	}
}

// 28.4

// noneBegins holds that no text begins with another one: sorted, such ones would be neighbours.
func noneBegins(t *testing.T, all []string) {
	t.Helper()
	slices.Sort(all)
	all = slices.Compact(all)
	for i, s := range all[1:] {
		if strings.HasPrefix(s, all[i]) {
			t.Fatalf("%x begins with %x", s, all[i])
		}
	}
}

func TestNoOnesBytesBeginWithAnothers(t *testing.T) {
	var l []string
	for _, a := range rightAsks() {
		s, _ := query.PutAsk(a)
		l = append(l, s)
	}
	noneBegins(t, l)
	l = nil
	for _, r := range append(rightReplies(), longReplies()[0]) {
		s, _ := query.PutReply(r)
		l = append(l, s)
	}
	noneBegins(t, l)
}

func TestWhatIsCutOffIsNoOnes(t *testing.T) {
	for i, a := range rightAsks() {
		if i%7 > 0 {
			continue
		}
		s, _ := query.PutAsk(a)
		for k := range s {
			if b, why := query.GetAsk(s[:k]); why != api.ErrCode || b != (api.Ask{}) {
				t.Fatalf("%x of %x: %v, error %d", s[:k], s, b, why)
			}
		}
	}
	for _, r := range rightReplies() {
		s, _ := query.PutReply(r)
		for k := range s {
			if b, why := query.GetReply(s[:k]); why != api.ErrCode || !emptyReply(b) {
				t.Fatalf("%x of %x: %v, error %d", s[:k], s, b, why)
			}
		}
	}
}

// P1, P3, P4

func FuzzAnyBytes(f *testing.F) {
	for _, s := range []string{"", "\x06", "\x0f", "\x03\x04\x04\x00\xac\x02\x05\x09", "\x04\xac\x02\x06\x09\x05", "\x00\x01\x05\x09\x03\x04\x00\x00\x01\x05", "\x00\x00\x03\x05\xac\x02\x05\x00\x00", "\x00\x00\x00\x01\x00\x09\x00\x00\x00"} {
		f.Add(s)
	}
	f.Fuzz(func(t *testing.T, s string) { readAsPlain(t, s) })
}

func FuzzAnyNumbers(f *testing.F) {
	f.Add(uint8(3), 4, false, uint64(0), uint64(300), int64(5), int64(9), 0, uint8(3), int64(-3))
	f.Add(uint8(4), 1<<20, true, uint64(0), uint64(0), int64(9), int64(5), 15, uint8(0), int64(0))
	f.Add(uint8(7), -1, true, uint64(math.MaxUint64), uint64(1), int64(math.MinInt64), int64(1<<40), 16, uint8(5), int64(math.MinInt64))
	f.Fuzz(func(t *testing.T, kind uint8, router int, six bool, hi, lo uint64, from, to int64, why int, verdict uint8, n int64) {
		a := api.Addr{Hi: hi, Lo: lo}
		askAsPlain(t, api.Ask{Kind: api.AskKind(kind), Router: router, Six: six, Addr: a, From: from, To: to})
		askAsPlain(t, api.Ask{Kind: api.AskKind(kind % 8), Router: router, Six: six, From: from, To: to})
		askAsPlain(t, api.Ask{Kind: api.AskKind(kind % 8), Six: six, Addr: a, From: from})
		replyAsPlain(t, api.Reply{Why: api.Errno(why)})
		r := api.Reply{Eras: []api.Era{era(from, to, api.VerdictKind(verdict), router)}, Routers: []int{router, 0}, Spans: []api.Span{{From: a}}, Nums: []int64{n}}
		replyAsPlain(t, r)
		replyAsPlain(t, api.Reply{Why: api.Errno(why), Nums: r.Nums})
		replyAsPlain(t, api.Reply{Spans: r.Spans, Nums: many(n, int(verdict)%20)})
	})
}

func TestAnswersHangOnArgumentsAlone(t *testing.T) {
	right := rightReplies()
	var first []string
	for _, r := range right {
		s, _ := query.PutReply(r)
		first = append(first, s)
	}
	for i, r := range slices.Backward(right) {
		room := api.Reply{Why: r.Why, Eras: roomy(r.Eras), Routers: roomy(r.Routers), Spans: roomy(r.Spans), Nums: roomy(r.Nums)}
		if s, why := query.PutReply(room); s != first[i] || why != api.OK {
			t.Fatalf("%v: %x, then %x", r, first[i], s)
		}
		if b, why := query.GetReply(strings.Clone(first[i])); !sameReply(b, r) || why != api.OK {
			t.Fatalf("%x: %v, error %d", first[i], b, why)
		}
	}
}

func TestNoGoroutineIsLeft(t *testing.T) {
	before := runtime.NumGoroutine()
	for _, a := range rightAsks()[:100] {
		query.CheckAsk(a)
		s, _ := query.PutAsk(a)
		query.GetAsk(s)
	}
	for _, r := range replies() {
		query.CheckReply(r)
		s, _ := query.PutReply(r)
		query.GetReply(s)
	}
	if after := runtime.NumGoroutine(); after > before {
		t.Errorf("%d goroutines, and %d ahead of the calls", after, before)
	}
}
