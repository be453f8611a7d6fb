package snap_test

import (
	"encoding/binary"
	"math"
	"math/rand"
	"runtime"
	"slices"
	"strings"
	"testing"
	"unsafe"

	"spoor/api"
	"spoor/frame"
	"spoor/net"
	"spoor/past"
	"spoor/snap"
)

// The calls have the signatures of doc/29-snap.md.
var (
	_ func(api.Past) ([]string, api.Errno) = snap.Records
	_ func(api.Event) (string, api.Errno)  = snap.Event
	_ func(int64) (string, api.Errno)      = snap.Retain
	_ func([]string) (api.Past, api.Errno) = snap.Load
	_ func(api.Past) (int, api.Errno)      = snap.Size
)

// What follows is plain, by the document's words, and by Go's own numbers' bytes, which are those of doc/01-num.md.

func plainNums(l ...uint64) string {
	var b []byte
	for _, n := range l {
		b = binary.AppendUvarint(b, n)
	}
	return string(b)
}

// plainZig is 2n, if n is 0 or more, else -2n - 1.
func plainZig(n int64) uint64 {
	if n >= 0 {
		return 2 * uint64(n)
	}
	return 2*uint64(-(n+1)) + 1
}

func plainPrefix(p api.Prefix) string {
	mark, b := byte(4), binary.BigEndian.AppendUint32(nil, uint32(p.Addr.Lo))
	if p.Six {
		mark, b = 6, binary.BigEndian.AppendUint64(binary.BigEndian.AppendUint64(nil, p.Addr.Hi), p.Addr.Lo)
	}
	return string([]byte{mark, byte(p.Len)}) + string(b[:(p.Len+7)/8])
}

func plainAction(a api.Action) string {
	if a.Kind == api.ActionForward {
		return "\x01" + plainNums(uint64(a.Iface))
	}
	return string(rune(a.Kind))
}

func plainHorizon(h int64) string { return "\x01" + plainNums(plainZig(h)) }

func plainSeat(s api.Seat) string {
	mark := "\x00"
	if s.Up {
		mark = "\x01"
	}
	return "\x02" + plainNums(uint64(s.Router), s.Seq, uint64(s.Time)) + mark
}

func plainRoute(r api.Route) string { return "\x03" + plainPrefix(r.Prefix) + plainAction(r.Action) }
func plainLink(l api.Link) string   { return "\x04" + plainNums(uint64(l.Iface), uint64(l.Peer)) }
func plainTime(t int64) string      { return "\x06" + plainNums(uint64(t)) }

func plainEvent(e api.Event) string {
	s := "\x05" + string(rune(e.Kind)) + plainNums(uint64(e.Router), e.Seq, uint64(e.Time))
	switch e.Kind {
	case api.EventAdd:
		return s + plainPrefix(e.Prefix) + plainAction(e.Action)
	case api.EventWithdraw:
		return s + plainPrefix(e.Prefix)
	case api.EventLinkUp:
		return s + plainNums(uint64(e.Iface), uint64(e.Peer))
	case api.EventLinkDown:
		return s + plainNums(uint64(e.Iface))
	}
	return s
}

// plainRecords are a right past's.
func plainRecords(p api.Past) []string {
	l := []string{plainHorizon(p.Horizon)}
	for i, s := range p.Base.Seats {
		l = append(l, plainSeat(s))
		for _, r := range p.Base.Routers[i].Routes {
			l = append(l, plainRoute(r))
		}
		for _, x := range p.Base.Routers[i].Links {
			l = append(l, plainLink(x))
		}
	}
	for _, e := range p.Events {
		l = append(l, plainEvent(e))
	}
	return l
}

// someNums reads that many numbers, and what is behind them; what is no number is read somehow. A record is one just if it is that of what was read of it, so that no reading has to ask more.
func someNums(s string, many int) ([]uint64, string) {
	l := make([]uint64, many)
	for i := range l {
		n, used := binary.Uvarint([]byte(s))
		l[i] = n
		s = s[max(used, 0):]
	}
	return l, s
}

// somePrefix reads a prefix likewise.
func somePrefix(s string) (api.Prefix, string) {
	if len(s) < 2 {
		return api.Prefix{}, s
	}
	p := api.Prefix{Six: s[0] == 6, Len: int(s[1])}
	many := min((p.Len+7)/8, len(s)-2, 16)
	var b [16]byte
	if copy(b[:], s[2:2+many]); p.Six {
		p.Addr = api.Addr{Hi: binary.BigEndian.Uint64(b[:8]), Lo: binary.BigEndian.Uint64(b[8:])}
	} else {
		p.Addr = api.Addr{Lo: uint64(binary.BigEndian.Uint32(b[:4]))}
	}
	return p, s[2+many:]
}

// someAction reads an action likewise.
func someAction(s string) (api.Action, string) {
	if s == "" {
		return api.Action{}, s
	}
	a, s := api.Action{Kind: api.ActionKind(s[0])}, s[1:]
	if a.Kind == api.ActionForward {
		l, rest := someNums(s, 1)
		a.Iface, s = int(l[0]), rest
	}
	return a, s
}

// someEvent reads an event's record likewise.
func someEvent(s string) api.Event {
	if len(s) < 2 {
		return api.Event{}
	}
	l, rest := someNums(s[2:], 3)
	e := api.Event{Kind: api.EventKind(s[1]), Router: int(l[0]), Seq: l[1], Time: int64(l[2])}
	switch e.Kind {
	case api.EventAdd:
		e.Prefix, rest = somePrefix(rest)
		e.Action, _ = someAction(rest)
	case api.EventWithdraw:
		e.Prefix, _ = somePrefix(rest)
	case api.EventLinkUp:
		l, _ := someNums(rest, 2)
		e.Iface, e.Peer = int(l[0]), int(l[1])
	case api.EventLinkDown:
		l, _ := someNums(rest, 1)
		e.Iface = int(l[0])
	}
	return e
}

// plainBase reads a 1, if it is the first one, and the 2, 3 and 4 behind it; it answers the records that are left, and whether all is well so far.
func plainBase(l []string) (api.Past, []string, bool) {
	p := api.Past{Horizon: -1}
	if len(l) == 0 || !strings.HasPrefix(l[0], "\x01") {
		return p, l, true
	}
	nums, _ := someNums(l[0][1:], 1)
	p.Horizon = int64(nums[0] / 2)
	if nums[0]%2 == 1 {
		p.Horizon = -int64(nums[0]/2) - 1
	}
	is := l[0] == plainHorizon(p.Horizon)
	for l = l[1:]; len(l) > 0 && l[0] != "" && 2 <= l[0][0] && l[0][0] <= 4; l = l[1:] {
		rest, last := l[0][1:], len(p.Base.Routers)-1
		switch {
		case l[0][0] == 2:
			n, mark := someNums(rest, 3)
			s := api.Seat{Router: int(n[0]), Seq: n[1], Time: int64(n[2]), Up: mark == "\x01"}
			p.Base.Seats = append(p.Base.Seats, s)
			p.Base.Routers = append(p.Base.Routers, api.Router{Id: s.Router, Up: s.Up})
			is = is && l[0] == plainSeat(s)
		case last < 0:
			is = false
		case l[0][0] == 3:
			prefix, rest := somePrefix(rest)
			action, _ := someAction(rest)
			r := api.Route{Prefix: prefix, Action: action}
			p.Base.Routers[last].Routes = append(p.Base.Routers[last].Routes, r)
			is = is && r.Prefix.Len <= 128 && l[0] == plainRoute(r) && len(p.Base.Routers[last].Links) == 0
		default:
			n, _ := someNums(rest, 2)
			x := api.Link{Iface: int(n[0]), Peer: int(n[1])}
			p.Base.Routers[last].Links = append(p.Base.Routers[last].Links, x)
			is = is && l[0] == plainLink(x)
		}
	}
	return p, l, is && past.Check(p) == api.OK
}

// plainLoad is what records come to, one by one. It is slow where there are many events.
func plainLoad(l []string) (api.Past, api.Errno) {
	p, l, is := plainBase(l)
	for _, s := range l {
		why := api.ErrCode
		switch {
		case strings.HasPrefix(s, "\x05"):
			e := someEvent(s)
			if q, no := past.Take(p, e); no == api.OK && s == plainEvent(e) {
				p, why = q, no
			}
		case strings.HasPrefix(s, "\x06"):
			n, _ := someNums(s[1:], 1)
			if q, no := past.Retain(p, int64(n[0])); no == api.OK && s == plainTime(int64(n[0])) {
				p, why = q, no
			}
		}
		is = is && why == api.OK
		if !is {
			break
		}
	}
	if !is {
		return api.Past{}, api.ErrCode
	}
	return p, api.OK
}

func sameRouter(a, b api.Router) bool {
	return a.Id == b.Id && a.Up == b.Up && slices.Equal(a.Routes, b.Routes) && slices.Equal(a.Links, b.Links)
}

// same tells whether pasts are alike: nil and empty lists are.
func same(a, b api.Past) bool {
	return slices.Equal(a.Base.Seats, b.Base.Seats) && slices.EqualFunc(a.Base.Routers, b.Base.Routers, sameRouter) &&
		a.Horizon == b.Horizon && slices.Equal(a.Events, b.Events)
}

// loads holds Load against the plain form, and tells whether it took the records.
func loads(t *testing.T, l []string) bool {
	t.Helper()
	want, no := plainLoad(l)
	p, why := snap.Load(l)
	if !same(p, want) || why != no {
		t.Fatalf("Load(%q): %v, error %d, not %v, %d", l, p, why, want, no)
	}
	return why == api.OK
}

// Samples.

var (
	deliver = api.Action{Kind: api.ActionDeliver}
	discard = api.Action{Kind: api.ActionDiscard}
	by3     = api.Action{Kind: api.ActionForward, Iface: 3}
	actions = []api.Action{deliver, discard, by3, {Kind: api.ActionForward, Iface: api.MaxIface}}
	ten     = api.Prefix{Addr: api.Addr{Lo: 10 << 24}, Len: 8}
	far     = api.Prefix{Six: true, Addr: api.Addr{Hi: 0x20010db8 << 32, Lo: math.MaxUint64}, Len: 128}
	kinds   = []api.EventKind{api.EventUp, api.EventDown, api.EventAdd, api.EventWithdraw, api.EventLinkUp, api.EventLinkDown}
)

// event is a right one, if its numbers are.
func event(kind api.EventKind, router int, seq uint64, time int64) api.Event {
	e := api.Event{Kind: kind, Router: router, Seq: seq, Time: time}
	switch kind {
	case api.EventAdd:
		e.Prefix, e.Action = ten, by3
	case api.EventWithdraw:
		e.Prefix = ten
	case api.EventLinkUp:
		e.Iface, e.Peer = 3, 7
	case api.EventLinkDown:
		e.Iface = 3
	}
	return e
}

// routes are right ones of both kinds, with prefixes of all sorts of lengths.
func routes() []api.Route {
	return []api.Route{
		{Prefix: api.Prefix{}, Action: discard},
		{Prefix: ten, Action: by3},
		{Prefix: api.Prefix{Addr: api.Addr{Lo: 10<<24 | 1<<23}, Len: 9}, Action: deliver},
		{Prefix: api.Prefix{Addr: api.Addr{Lo: math.MaxUint32}, Len: 32}, Action: actions[3]},
		{Prefix: api.Prefix{Six: true}, Action: by3},
		{Prefix: api.Prefix{Six: true, Addr: api.Addr{Hi: 1 << 63}, Len: 1}, Action: deliver},
		{Prefix: api.Prefix{Six: true, Addr: api.Addr{Hi: math.MaxUint64, Lo: 1 << 63}, Len: 65}, Action: discard},
		{Prefix: api.Prefix{Six: true, Addr: api.Addr{Hi: math.MaxUint64, Lo: math.MaxUint64}, Len: 128}, Action: actions[3]},
	}
}

// manyRoutes are that many right routes, all as long as can be.
func manyRoutes(many int) []api.Route {
	l := make([]api.Route, many)
	for i := range l {
		l[i] = api.Route{Prefix: api.Prefix{Six: true, Addr: api.Addr{Hi: math.MaxUint64, Lo: uint64(i)}, Len: 128}, Action: actions[3]}
	}
	return l
}

// manyLinks are that many right links, all as long as can be.
func manyLinks(many int) []api.Link {
	l := make([]api.Link, many)
	for i := range l {
		l[i] = api.Link{Iface: api.MaxIface - many + 1 + i, Peer: api.MaxId}
	}
	return l
}

// seated is a right net of right routers that rise, whose last events had those Seq and Time.
func seated(seq uint64, time int64, l ...api.Router) api.Net {
	n := api.Net{Routers: l}
	for _, r := range l {
		n.Seats = append(n.Seats, api.Seat{Router: r.Id, Seq: seq, Time: time, Up: r.Up})
	}
	return n
}

// based is of a net that was, at the horizon 7, and of later events.
func based() api.Past {
	n := seated(3, 6, api.Router{Id: 2, Up: true, Routes: routes(), Links: []api.Link{{Iface: 0, Peer: 4}, {Iface: 3, Peer: 300}}}, api.Router{Id: 5}, api.Router{Id: 300, Up: true})
	return api.Past{Base: n, Horizon: 7, Events: []api.Event{
		event(api.EventAdd, 2, 4, 11), event(api.EventUp, 5, 4, 8), event(api.EventUp, 9, 1, 9), event(api.EventWithdraw, 2, 5, 11), event(api.EventLinkUp, 5, 5, 300), event(api.EventLinkDown, 2, 6, 12), event(api.EventDown, 9, 2, 9),
	}}
}

// linked is of events alone: 4 begins at 5, and has a link at 8; 2 begins at 6, which was told later.
func linked() api.Past {
	return api.Past{Horizon: -1, Events: []api.Event{
		event(api.EventUp, 4, 1, 5), event(api.EventLinkUp, 4, 2, 8), event(api.EventUp, 2, 1, 6), event(api.EventAdd, 2, 2, 6), event(api.EventAdd, 4, 3, 8), event(api.EventDown, 2, 3, 12),
	}}
}

// widest is a past whose records are as long as can be: of 64 routers, the first ones of which have routes and links, and as many events as may be.
func widest() api.Past {
	var l []api.Router
	for i := range 64 {
		l = append(l, api.Router{Id: api.MaxId - 63 + i, Up: true})
	}
	for i := range 3 {
		l[i].Routes, l[i].Links = manyRoutes(200), manyLinks(32)
	}
	p := api.Past{Base: seated(1<<39, 1<<39, l...), Horizon: 1 << 39}
	for i := range api.MaxEvents {
		e := event(api.EventWithdraw, api.MaxId, 1<<39+1+uint64(i), api.MaxTime)
		if e.Prefix = far; i < 300 {
			e.Kind, e.Action = api.EventAdd, actions[3]
		}
		p.Events = append(p.Events, e)
	}
	return p
}

// rights are right pasts.
func rights() []api.Past {
	return []api.Past{
		{},
		{Horizon: -1},
		{Horizon: -1, Base: api.Net{Seats: []api.Seat{}, Routers: []api.Router{}}, Events: []api.Event{}},
		{Horizon: 63}, {Horizon: 64}, {Horizon: api.MaxTime},
		{Horizon: api.MaxTime, Base: based().Base},
		{Horizon: api.MaxTime - 1, Events: []api.Event{event(api.EventUp, 0, 1, api.MaxTime)}},
		{Horizon: 0, Base: seated(1, 0, api.Router{})},
		{Horizon: api.MaxTime, Base: seated(api.MaxSeq, api.MaxTime, api.Router{Up: true}, api.Router{Id: api.MaxId, Up: true, Routes: manyRoutes(256), Links: manyLinks(32)})},
		linked(), based(), widest(),
	}
}

// wrongs are pasts that are not right.
func wrongs() []api.Past {
	late, heavy := based(), widest()
	late.Horizon = 5
	heavy.Base.Routers[3].Links = manyLinks(32)
	return []api.Past{
		{Horizon: -2}, {Horizon: api.MaxTime + 1}, {Horizon: math.MinInt64}, late, heavy,
		{Base: api.Net{Seats: make([]api.Seat, 1)}},
		{Base: api.Net{Routers: make([]api.Router, 1)}},
		{Horizon: 7, Base: seated(3, 6, api.Router{Id: 4}, api.Router{Id: 4})},
		{Horizon: 7, Base: seated(3, 6, api.Router{Id: 4, Routes: routes()})},
		{Horizon: 7, Base: seated(3, 6, api.Router{Id: 4, Up: true, Routes: []api.Route{{}}})},
		{Horizon: 7, Events: []api.Event{{}}},
		{Horizon: 7, Events: []api.Event{event(api.EventUp, 4, 1, 7)}},
		{Horizon: 7, Events: []api.Event{event(api.EventUp, 4, 2, 8)}},
		{Horizon: -1, Events: make([]api.Event, 1<<20)},
	}
}

func wrongEvents() []api.Event {
	return []api.Event{
		{}, event(api.EventCount, 4, 4, 20), event(255, 4, 4, 20), event(api.EventUp, -1, 1, 20), event(api.EventUp, api.MaxId+1, 1, 20),
		event(api.EventUp, 6, 0, 20), event(api.EventUp, 6, api.MaxSeq+1, 20), event(api.EventUp, 6, 1, -1), event(api.EventUp, 6, 1, api.MaxTime+1),
		{Kind: api.EventUp, Router: 6, Seq: 1, Time: 20, Peer: 7}, {Kind: api.EventAdd, Router: 4, Seq: 4, Time: 20},
		{Kind: api.EventWithdraw, Router: 4, Seq: 4, Time: 20, Prefix: api.Prefix{Len: 33}},
		{Kind: api.EventLinkDown, Router: 4, Seq: 4, Time: 20, Iface: api.MaxIface + 1},
	}
}

// someEvents are of a few routers by chance, and fit one behind the other, of an empty net. Each router has times of its own.
func someEvents(r *rand.Rand, many int) []api.Event {
	seqs, times, ups := [5]uint64{}, [5]int64{}, [5]bool{}
	var l []api.Event
	for range many {
		i := r.Intn(5)
		kind := api.EventUp
		if ups[i] {
			kind = kinds[1+r.Intn(5)]
		}
		e := event(kind, i*60, seqs[i]+1, times[i]+int64(r.Intn(4)))
		switch kind {
		case api.EventAdd, api.EventWithdraw:
			e.Prefix = routes()[r.Intn(8)].Prefix
		case api.EventLinkUp, api.EventLinkDown:
			e.Iface = r.Intn(5)
		}
		if kind == api.EventAdd {
			e.Action = actions[r.Intn(4)]
		}
		seqs[i], times[i], ups[i] = e.Seq, e.Time, kind != api.EventDown
		l = append(l, e)
	}
	return l
}

// somePast is a right past by chance, now and then one that was retained.
func somePast(t *testing.T, r *rand.Rand) api.Past {
	t.Helper()
	p := api.Past{Horizon: -1, Events: someEvents(r, r.Intn(40))}
	if r.Intn(2) == 0 {
		q, why := past.Retain(p, int64(r.Intn(12)))
		if why != api.OK {
			t.Fatalf("Retain: error %d", why)
		}
		p = q
	}
	return p
}

// 29.1

func TestExamples(t *testing.T) {
	if l, why := snap.Records(past.Make()); !slices.Equal(l, []string{"\x01\x01"}) || why != api.OK {
		t.Errorf("Records of nothing: %q, error %d", l, why)
	}
	if s, why := snap.Retain(300); s != "\x06\xac\x02" || why != api.OK {
		t.Errorf("Retain(300): %q, error %d", s, why)
	}
	if n, why := snap.Size(past.Make()); n != 7 || why != api.OK {
		t.Errorf("Size of nothing: %d, error %d", n, why)
	}
}

func TestRecordsByHand(t *testing.T) {
	p := based()
	p.Base.Routers[0].Routes = routes()[1:7]
	want := []string{
		"\x01\x0e",
		"\x02\x02\x03\x06\x01",
		"\x03\x04\x08\x0a\x01\x03", "\x03\x04\x09\x0a\x80\x02", "\x03\x04\x20\xff\xff\xff\xff\x01\x80\x80\x04",
		"\x03\x06\x00\x01\x03", "\x03\x06\x01\x80\x02", "\x03\x06\x41\xff\xff\xff\xff\xff\xff\xff\xff\x80\x03",
		"\x04\x00\x04", "\x04\x03\xac\x02",
		"\x02\x05\x03\x06\x00",
		"\x02\xac\x02\x03\x06\x01",
		"\x05\x03\x02\x04\x0b\x04\x08\x0a\x01\x03", "\x05\x01\x05\x04\x08", "\x05\x01\x09\x01\x09", "\x05\x04\x02\x05\x0b\x04\x08\x0a",
		"\x05\x05\x05\x05\xac\x02\x03\x07", "\x05\x06\x02\x06\x0c\x03", "\x05\x02\x09\x02\x09",
	}
	if l, why := snap.Records(p); !slices.Equal(l, want) || why != api.OK {
		t.Errorf("Records: %q, error %d, not %q", l, why, want)
	}
	if q, why := snap.Load(want); !same(q, p) || why != api.OK {
		t.Errorf("Load: %v, error %d, not %v", q, why, p)
	}
}

func TestRecordsByTheWords(t *testing.T) {
	all := rights()
	for seed := range 100 {
		all = append(all, somePast(t, rand.New(rand.NewSource(int64(seed)))))
	}
	for _, p := range all {
		want := plainRecords(p)
		if l, why := snap.Records(p); !slices.Equal(l, want) || why != api.OK {
			t.Fatalf("Records(%v): %q, error %d, not %q", p, l, why, want)
		}
	}
}

func TestPastsThatAreNotRightAreRefused(t *testing.T) {
	for i, p := range wrongs() {
		if past.Check(p) != api.ErrForm {
			t.Fatalf("the sample %d is right", i)
		}
		if l, why := snap.Records(p); len(l) != 0 || why != api.ErrForm {
			t.Errorf("sample %d: %d records, error %d", i, len(l), why)
		}
		if n, why := snap.Size(p); n != 0 || why != api.ErrForm {
			t.Errorf("sample %d: a size of %d, error %d", i, n, why)
		}
	}
}

func TestEvent(t *testing.T) {
	all := slices.Concat(based().Events, linked().Events, widest().Events[299:301], someEvents(rand.New(rand.NewSource(291)), 400))
	for _, kind := range kinds {
		all = append(all, event(kind, 0, 1, 0), event(kind, api.MaxId, api.MaxSeq, api.MaxTime))
	}
	for _, e := range all {
		if s, why := snap.Event(e); s != plainEvent(e) || why != api.OK {
			t.Fatalf("Event(%v): %q, error %d, not %q", e, s, why, plainEvent(e))
		}
	}
	for _, e := range wrongEvents() {
		if s, why := snap.Event(e); s != "" || why != api.ErrForm {
			t.Errorf("Event(%v): %q, error %d", e, s, why)
		}
	}
}

func TestRetain(t *testing.T) {
	for _, at := range []int64{0, 1, 127, 128, 300, 1<<32 - 1, 1 << 32, api.MaxTime - 1, api.MaxTime} {
		if s, why := snap.Retain(at); s != plainTime(at) || why != api.OK {
			t.Errorf("Retain(%d): %q, error %d", at, s, why)
		}
	}
	for _, at := range []int64{-1, -300, math.MinInt64, api.MaxTime + 1, math.MaxInt64} {
		if s, why := snap.Retain(at); s != "" || why != api.ErrRange {
			t.Errorf("Retain(%d): %q, error %d", at, s, why)
		}
	}
}

// plainSize is how many bytes the records' frames have, all of which are laid.
func plainSize(t *testing.T, l []string) int {
	t.Helper()
	many := 0
	for _, s := range l {
		f, why := frame.Put(s)
		if why != api.OK {
			t.Fatalf("Put: error %d", why)
		}
		many += len(f)
	}
	return many
}

func TestSize(t *testing.T) {
	for _, p := range rights() {
		want := plainSize(t, plainRecords(p))
		if n, why := snap.Size(p); n != want || why != api.OK {
			t.Errorf("Size(%v): %d, error %d, not %d", p, n, why, want)
		}
	}
	p := api.Past{Base: seated(1, 5, api.Router{Id: 4, Up: true}), Horizon: 300}
	if n, why := snap.Size(p); n != 18 || why != api.OK {
		t.Errorf("Size, retained to 300: %d, error %d", n, why)
	}
}

// 29.2

// Records by their short names, for lists that are put together by hand.
const (
	all7  = "\x01\x0e"             // the horizon 7
	all0  = "\x01\x00"             // the horizon 0
	none  = "\x01\x01"             // the horizon -1
	two   = "\x02\x02\x03\x06\x01" // 2, of Seq 3 and Time 6, is Up
	five  = "\x02\x05\x03\x06\x00" // 5, likewise, is not
	nine  = "\x02\x09\x03\x07\x01" // 9 is Up, its Time is 7
	near  = "\x03\x04\x08\x0a\x02" // 10.0.0.0/8 is delivered
	big   = "\x03\x06\x00\x03"     // all of IPv6 is discarded
	by0   = "\x04\x00\x04"         // 0 leads to 4
	by1   = "\x04\x01\x05"         // 1 leads to 5
	begin = "\x05\x01\x04\x01\x08" // 4 begins at 8
	end   = "\x05\x02\x04\x02\x09" // and ends at 9
	to7   = "\x06\x07"
	to8   = "\x06\x08"
)

func TestLoadByHand(t *testing.T) {
	up4 := api.Event{Kind: api.EventUp, Router: 4, Seq: 1, Time: 8}
	down4 := api.Event{Kind: api.EventDown, Router: 4, Seq: 2, Time: 9}
	near4 := api.Route{Prefix: ten, Action: deliver}
	big6 := api.Route{Prefix: api.Prefix{Six: true}, Action: discard}
	l0, l1 := api.Link{Peer: 4}, api.Link{Iface: 1, Peer: 5}
	at8 := seated(1, 8, api.Router{Id: 4, Up: true})
	for _, c := range []struct {
		say  string
		l    []string
		want api.Past
	}{
		{"nothing", nil, api.Past{Horizon: -1}},
		{"a horizon of nothing", []string{none}, api.Past{Horizon: -1}},
		{"a horizon", []string{all7}, api.Past{Horizon: 7}},
		{"the horizon 0", []string{all0}, api.Past{}},
		{"the greatest horizon", []string{"\x01" + plainNums(1<<41)}, api.Past{Horizon: api.MaxTime}},
		{"an event", []string{begin}, api.Past{Horizon: -1, Events: []api.Event{up4}}},
		{"a time", []string{to8}, api.Past{Horizon: 8}},
		{"the time 0", []string{"\x06\x00"}, api.Past{Horizon: 0}},
		{"the greatest time", []string{"\x06" + plainNums(1<<40)}, api.Past{Horizon: api.MaxTime}},
		{"events", []string{begin, end}, api.Past{Horizon: -1, Events: []api.Event{up4, down4}}},
		{"an event behind a horizon", []string{all7, begin}, api.Past{Horizon: 7, Events: []api.Event{up4}}},
		{"an event, and its time", []string{begin, to8}, api.Past{Horizon: 8, Base: at8}},
		{"a time, an event", []string{to7, begin}, api.Past{Horizon: 7, Events: []api.Event{up4}}},
		{"a time, an event, a time, an event", []string{to7, begin, to8, end}, api.Past{Horizon: 8, Base: at8, Events: []api.Event{down4}}},
		{"events, a time amid them", []string{begin, end, to8}, api.Past{Horizon: 8, Base: at8, Events: []api.Event{down4}}},
		{"a time once more", []string{to7, to7, begin, to8, to8}, api.Past{Horizon: 8, Base: at8}},
		{"the horizon's time", []string{all7, to7}, api.Past{Horizon: 7}},
		{"a router", []string{all7, two}, api.Past{Horizon: 7, Base: seated(3, 6, api.Router{Id: 2, Up: true})}},
		{"a router that is not up", []string{all7, five}, api.Past{Horizon: 7, Base: seated(3, 6, api.Router{Id: 5})}},
		{"routers", []string{all7, two, five}, api.Past{Horizon: 7, Base: seated(3, 6, api.Router{Id: 2, Up: true}, api.Router{Id: 5})}},
		{"a route", []string{all7, two, near}, api.Past{Horizon: 7, Base: seated(3, 6, api.Router{Id: 2, Up: true, Routes: []api.Route{near4}})}},
		{"routes", []string{all7, two, near, big, five}, api.Past{Horizon: 7, Base: seated(3, 6, api.Router{Id: 2, Up: true, Routes: []api.Route{near4, big6}}, api.Router{Id: 5})}},
		{"links", []string{all7, two, by0, by1}, api.Past{Horizon: 7, Base: seated(3, 6, api.Router{Id: 2, Up: true, Links: []api.Link{l0, l1}})}},
		{"links behind routes", []string{all7, two, near, by0, by1}, api.Past{Horizon: 7, Base: seated(3, 6, api.Router{Id: 2, Up: true, Routes: []api.Route{near4}, Links: []api.Link{l0, l1}})}},
		{"routes behind another router's links", []string{all7, two, by0, nine, near, by1}, api.Past{Horizon: 7, Base: api.Net{
			Seats:   []api.Seat{{Router: 2, Seq: 3, Time: 6, Up: true}, {Router: 9, Seq: 3, Time: 7, Up: true}},
			Routers: []api.Router{{Id: 2, Up: true, Links: []api.Link{l0}}, {Id: 9, Up: true, Routes: []api.Route{near4}, Links: []api.Link{l1}}},
		}}},
	} {
		if p, why := snap.Load(c.l); !same(p, c.want) || why != api.OK {
			t.Errorf("%s: %v, error %d, not %v", c.say, p, why, c.want)
		}
		loads(t, c.l)
	}
}

func TestLoadRefuses(t *testing.T) {
	long := strings.Repeat("\x80", 9)
	for say, l := range map[string][]string{
		"an empty record":                           {""},
		"an empty record behind":                    {none, ""},
		"a record 0":                                {"\x00"},
		"a record 7":                                {"\x07\x01"},
		"a record 7 behind":                         {none, "\x07\x01"},
		"a record 255":                              {all7, "\xff"},
		"a horizon, cut":                            {"\x01"},
		"a horizon, and a byte":                     {"\x01\x01\x00"},
		"a horizon of needless bytes":               {"\x01\x81\x00"},
		"a horizon of too many bytes":               {"\x01" + long + "\x02"},
		"the horizon -2":                            {"\x01\x03"},
		"the least horizon":                         {"\x01" + plainNums(math.MaxUint64)},
		"a horizon too great":                       {"\x01" + plainNums(1<<41+2)},
		"the greatest number as horizon":            {"\x01" + plainNums(math.MaxUint64-1)},
		"a horizon twice":                           {all7, all7},
		"a horizon behind a router":                 {all7, two, all7},
		"a horizon behind an event":                 {begin, all7},
		"a horizon behind a time":                   {to7, all7},
		"a router without a horizon":                {two},
		"a route without a horizon":                 {near},
		"a link without a horizon":                  {by0},
		"a route without a router":                  {all7, near},
		"a link without a router":                   {all7, by0},
		"a router behind an event":                  {all7, begin, two},
		"a router behind a time":                    {all7, to7, two},
		"a router behind an event and no horizon":   {begin, two},
		"a route behind an event":                   {all7, two, begin, near},
		"a link behind a time":                      {all7, two, to7, by0},
		"a route behind a time alone":               {to7, near},
		"a router of the horizon -1":                {none, "\x02\x02\x01\x00\x01"},
		"a router later than the horizon":           {all7, "\x02\x02\x03\x08\x01"},
		"routers that do not rise":                  {all7, five, two},
		"a router twice":                            {all7, two, two},
		"a router beyond MaxId":                     {all7, "\x02" + plainNums(api.MaxId+1, 3, 6) + "\x01"},
		"a router of a number that wraps":           {all7, "\x02" + plainNums(1<<63, 3, 6) + "\x01"},
		"a router of 32 bits that wrap":             {all7, "\x02" + plainNums(1<<32+2, 3, 6) + "\x01"},
		"a seat of Seq 0":                           {all7, "\x02\x02\x00\x06\x01"},
		"a seat beyond MaxSeq":                      {all7, "\x02" + plainNums(2, api.MaxSeq+1, 6) + "\x01"},
		"a seat of a time that wraps":               {all7, "\x02" + plainNums(2, 3, math.MaxUint64) + "\x01"},
		"a seat that is 2":                          {all7, "\x02\x02\x03\x06\x02"},
		"a seat that is 129":                        {all7, "\x02\x02\x03\x06\x81"},
		"a seat that is 1 in two bytes":             {all7, "\x02\x02\x03\x06\x81\x00"},
		"a seat, cut":                               {all7, "\x02\x02\x03\x06"},
		"a seat, and a byte":                        {all7, two + "\x00"},
		"a route of one that is not up":             {all7, five, near},
		"a link of one that is not up":              {all7, five, by0},
		"a route behind a link":                     {all7, two, by0, near},
		"a route amid links":                        {all7, two, by0, near, by1},
		"routes around a link":                      {all7, two, near, by0, big},
		"a later router's route behind its link":    {all7, two, near, by0, nine, by1, near},
		"routes that do not rise":                   {all7, two, big, near},
		"a prefix twice":                            {all7, two, near, "\x03\x04\x08\x0a\x03"},
		"a route, cut":                              {all7, two, "\x03\x04\x08\x0a"},
		"a route, and a byte":                       {all7, two, near + "\x00"},
		"a prefix of no kind":                       {all7, two, "\x03\x05\x08\x0a\x02"},
		"a prefix too long":                         {all7, two, "\x03\x04\x21\x0a\x00\x00\x00\x00\x02"},
		"a prefix with bits behind":                 {all7, two, "\x03\x04\x07\x0b\x02"},
		"a route of no action":                      {all7, two, "\x03\x04\x08\x0a\x00"},
		"a route by an interface too great":         {all7, two, "\x03\x04\x08\x0a\x01" + plainNums(api.MaxIface+1)},
		"links that do not rise":                    {all7, two, by1, by0},
		"an interface twice":                        {all7, two, by0, "\x04\x00\x05"},
		"a link, cut":                               {all7, two, "\x04\x00"},
		"a link, and a byte":                        {all7, two, by0 + "\x00"},
		"an interface too great":                    {all7, two, "\x04" + plainNums(api.MaxIface+1, 4)},
		"a peer too great":                          {all7, two, "\x04" + plainNums(0, api.MaxId+1)},
		"a peer that wraps":                         {all7, two, "\x04" + plainNums(0, 1<<63)},
		"an event of no body":                       {"\x05"},
		"an event, cut":                             {begin[:4]},
		"an event, and a byte":                      {begin + "\x00"},
		"an event of no kind":                       {"\x05\x07\x04\x01\x08"},
		"an event that is refused":                  {end},
		"an event at the horizon":                   {all7, to8, begin},
		"an event twice":                            {begin, begin},
		"an event of a router that was":             {all7, two, "\x05\x02\x02\x05\x08"},
		"an event refused ahead of one that is not": {end, begin},
		"a refused event that is forgotten":         {begin, begin, to8},
		"a time, cut":                               {"\x06"},
		"a time, and a byte":                        {"\x06\x07\x00"},
		"a time of needless bytes":                  {"\x06\x87\x00"},
		"a time too great":                          {"\x06" + plainNums(api.MaxTime+1)},
		"a time that wraps":                         {"\x06" + plainNums(math.MaxUint64)},
		"a time ahead of the horizon":               {all7, "\x06\x06"},
		"a time ahead of another one":               {to8, to7},
		"a wrong one behind right ones":             {all7, two, near, by0, five, begin, to8, end, to7},
		"a router of a wrong Base, then a time":     {all7, five, two, to8},
		"a late router, then its time":              {all7, "\x02\x02\x03\x08\x01", to8},
	} {
		if p, why := snap.Load(l); !same(p, api.Past{}) || why != api.ErrCode {
			t.Errorf("%s: %v, error %d", say, p, why)
		}
		loads(t, l)
	}
}

// All short rows of some records, in any order.
func TestLoadInAnyOrder(t *testing.T) {
	some := []string{none, all7, two, five, nine, near, big, by0, by1, begin, end, to7, to8}
	taken, refused := 0, 0
	var with func(l []string)
	with = func(l []string) {
		if loads(t, l) {
			taken++
		} else if refused++; len(l) > 3 && rand.New(rand.NewSource(int64(refused))).Intn(8) > 0 {
			return // what is behind most of those that are refused is no matter
		}
		if len(l) == 5 {
			return
		}
		for _, s := range some {
			with(append(slices.Clone(l), s))
		}
	}
	with(nil)
	if taken < 300 || refused < 10000 {
		t.Errorf("%d rows were taken, %d refused", taken, refused)
	}
}

// All records of up to two bytes, and of three of some bytes, in all places.
func TestLoadShortRecords(t *testing.T) {
	bytes := []byte{0, 1, 2, 3, 4, 5, 6, 7, 8, 10, 127, 128, 129, 255}
	short := []string{""}
	for a := range 256 {
		short = append(short, string([]byte{byte(a)}))
		for b := range 256 {
			short = append(short, string([]byte{byte(a), byte(b)}))
		}
	}
	for _, a := range bytes {
		for _, b := range bytes {
			for _, c := range bytes {
				short = append(short, string([]byte{a, b, c}))
			}
		}
	}
	taken := 0
	for _, s := range short {
		for _, l := range [][]string{{s}, {all7, two, s}} {
			if loads(t, l) {
				taken++
			}
		}
	}
	if taken < 300 {
		t.Errorf("only %d rows were taken", taken)
	}
}

// A right past's records, one of them turned somewhere, cut, or longer, left out, told twice, or put elsewhere.
func TestLoadTurned(t *testing.T) {
	small := api.Past{Horizon: 7, Base: based().Base, Events: based().Events[:3]}
	small.Base.Routers[0].Routes = slices.Clone(routes()[2:7:7])
	all := plainRecords(small)
	taken, tried := 0, 0
	try := func(l []string) {
		if tried++; loads(t, l) {
			taken++
		}
	}
	for i, s := range all {
		put := func(l ...string) { try(slices.Concat(all[:i], l, all[i+1:])) }
		put()
		put(s, s)
		put(s+"\x00", "")
		for _, o := range all {
			put(o)
			put(o, s)
		}
		for k := range len(s) {
			put(s[:k])
			put(s[:k] + "\x00" + s[k:])
			for _, b := range []byte{0, 1, 2, 3, 4, 5, 6, 7, 8, 9, 10, 32, 33, 64, 127, 128, 129, 254, 255, s[k] + 1, s[k] - 1, s[k] ^ 128} {
				put(s[:k] + string([]byte{b}) + s[k+1:])
			}
		}
	}
	if taken < 200 || tried < 2000 {
		t.Errorf("%d of %d were taken", taken, tried)
	}
}

// Records by chance: events, most of which fit, and times.
func TestLoadPlayed(t *testing.T) {
	taken := 0
	for seed := range 400 {
		r := rand.New(rand.NewSource(int64(seed)))
		p := somePast(t, r)
		l := plainRecords(p)
		if p.Horizon < 0 && r.Intn(2) == 0 {
			l = l[1:]
		}
		at := max(p.Horizon, 0)
		for range r.Intn(6) {
			if r.Intn(8) > 0 {
				at += int64(r.Intn(5))
			}
			i := len(l) - r.Intn(min(len(l), 8)+1)
			l = slices.Insert(l, i, plainTime(at+int64(r.Intn(20)/19)))
			if r.Intn(3) > 0 {
				l = append(l, plainEvent(event(api.EventUp, 1000+len(l), 1, at+1+int64(r.Intn(5)))))
			}
		}
		if loads(t, l) {
			taken++
		}
	}
	if taken < 50 || taken > 350 {
		t.Errorf("%d of 400 were taken", taken)
	}
}

// There is room for as many events as a past may have, and for none more; what is forgotten makes room.
func TestLoadFull(t *testing.T) {
	p := api.Past{Horizon: -1}
	for i := range api.MaxEvents + 2 {
		p.Events = append(p.Events, event(kinds[i%2], 4, uint64(i)+1, int64(i)+1))
	}
	l, all := plainRecords(p), api.MaxEvents+1 // a record of the horizon is ahead
	p.Events = p.Events[:api.MaxEvents]
	if q, why := snap.Load(l[:all]); !same(q, p) || why != api.OK {
		t.Fatalf("as many events as may be: error %d", why)
	}
	for say, c := range map[string]struct {
		l    []string
		many int
		why  api.Errno
	}{
		"one too many":                       {l[:all+1], 0, api.ErrCode},
		"one too many, that is forgotten":    {append(slices.Clone(l[:all+1]), plainTime(2000)), 0, api.ErrCode},
		"one more, behind what makes room":   {slices.Insert(slices.Clone(l[:all+1]), all, plainTime(1)), api.MaxEvents, api.OK},
		"two more, behind what makes room":   {slices.Insert(slices.Clone(l), all, plainTime(1)), 0, api.ErrCode},
		"two more, behind room for two":      {slices.Insert(slices.Clone(l), all, plainTime(2)), api.MaxEvents, api.OK},
		"one more, behind what makes none":   {slices.Insert(slices.Clone(l[:all+1]), all, plainTime(0)), 0, api.ErrCode},
		"many more, behind all was retained": {slices.Insert(slices.Clone(l), 1000, plainTime(999)), 27, api.OK},
	} {
		if q, why := snap.Load(c.l); len(q.Events) != c.many || why != c.why {
			t.Errorf("%s: %d events, error %d", say, len(q.Events), why)
		}
	}
}

// So it is of what a past weighs.
func TestLoadHeavy(t *testing.T) {
	p := widest()
	p.Events = nil
	for i := range 1024 - 3*232 {
		p.Events = append(p.Events, event(api.EventAdd, api.MaxId, 1<<39+1+uint64(i), 1<<39+1))
	}
	l := plainRecords(p)
	if q, why := snap.Load(l); !same(q, p) || why != api.OK {
		t.Fatalf("as much as may be: error %d", why)
	}
	last, room := plainEvent(event(api.EventLinkUp, api.MaxId-1, 1<<39+1, 1<<39+2)), plainTime(1<<39+1)
	for _, behind := range [][]string{{last}, {last, room}, {last, plainTime(1<<39 + 2)}} {
		if q, why := snap.Load(append(slices.Clone(l), behind...)); !same(q, api.Past{}) || why != api.ErrCode {
			t.Errorf("too heavy: error %d", why)
		}
	}
	if q, why := snap.Load(append(slices.Clone(l), room, last)); len(q.Events) != 1 || why != api.OK {
		t.Errorf("no more too heavy: error %d", why)
	}
}

// 29.3

func spoil[T any](l []T, to T) {
	for i := range l[:cap(l)] {
		l[:cap(l)][i] = to
	}
}

// spoilPast turns all that a past's lists have room for.
func spoilPast(p api.Past) {
	for _, r := range p.Base.Routers {
		spoil(r.Routes, api.Route{Prefix: api.Prefix{Len: -7}})
		spoil(r.Links, api.Link{Iface: -7, Peer: -77})
	}
	spoil(p.Base.Seats, api.Seat{Router: -7})
	spoil(p.Base.Routers, api.Router{Id: -7})
	spoil(p.Events, api.Event{Router: -7})
}

// newMemory is the same past, in lists of their own.
func newMemory(p api.Past) api.Past {
	p.Base.Seats, p.Base.Routers, p.Events = slices.Clone(p.Base.Seats), slices.Clone(p.Base.Routers), slices.Clone(p.Events)
	for i, r := range p.Base.Routers {
		p.Base.Routers[i].Routes, p.Base.Routers[i].Links = slices.Clone(r.Routes), slices.Clone(r.Links)
	}
	return p
}

func TestPastsAreNewMemory(t *testing.T) {
	for _, p := range []api.Past{linked(), based(), widest()} {
		for _, behind := range [][]string{nil, {plainTime(max(p.Horizon, 0))}, {plainTime(api.MaxTime)}} {
			l := append(plainRecords(p), behind...)
			a, _ := snap.Load(l)
			b, _ := snap.Load(l)
			want := newMemory(b)
			if spoilPast(a); !same(b, want) {
				t.Fatalf("two answers share memory: %v", p)
			}
			for i := range b.Base.Routers { // and its lists with one another
				spoilPast(api.Past{Base: api.Net{Routers: b.Base.Routers[i : i+1 : i+1]}})
				if !slices.EqualFunc(b.Base.Routers[i+1:], want.Base.Routers[i+1:], sameRouter) {
					t.Fatalf("routers share memory: %v", p)
				}
			}
		}
	}
}

func TestRecordsAreNewMemory(t *testing.T) {
	at := map[*byte]bool{}
	for range 2 {
		l, _ := snap.Records(widest())
		for _, s := range l {
			if at[unsafe.StringData(s)] {
				t.Fatal("two records share their bytes")
			}
			at[unsafe.StringData(s)] = true
		}
	}
	a, _ := snap.Records(based())
	b, _ := snap.Records(based())
	if clear(a[:cap(a)]); !slices.Equal(b, plainRecords(based())) {
		t.Error("two answers share their list")
	}
}

// What is handed in stays as it is, and so does the room behind it, which is the caller's.
func TestWhatIsHandedInIsLeftAlone(t *testing.T) {
	p := based()
	p.Events = append(make([]api.Event, 0, 20), p.Events...)
	p.Base.Routers = append(make([]api.Router, 0, 20), p.Base.Routers...)
	l := append(make([]string, 0, 60), plainRecords(p)...)
	was := slices.Clone(l)
	q, _ := snap.Load(l)
	spoilPast(q)
	snap.Records(p)
	snap.Size(p)
	if !same(p, based()) || !slices.Equal(l, was) {
		t.Error("what was handed in has changed")
	}
	if !slices.Equal(l[:60][len(l):], make([]string, 60-len(l))) || !slices.Equal(p.Events[:20][len(p.Events):], make([]api.Event, 20-len(p.Events))) {
		t.Error("there is something in the room behind what was handed in")
	}
	q, _ = snap.Load(l)
	if clear(l); !same(q, based()) {
		t.Error("the past shares memory with its records")
	}
}

// 29.4

func TestThereAndBack(t *testing.T) {
	all := rights()
	for seed := range 200 {
		all = append(all, somePast(t, rand.New(rand.NewSource(int64(seed)))))
	}
	for _, p := range all {
		l, why := snap.Records(p)
		if why != api.OK {
			t.Fatalf("Records(%v): error %d", p, why)
		}
		q, why := snap.Load(l)
		if !same(q, p) || why != api.OK {
			t.Fatalf("%v came back as %v, error %d", p, q, why)
		}
		again, why := snap.Records(q)
		if !slices.Equal(again, l) || why != api.OK {
			t.Fatalf("the records of %v, again: %q, error %d", q, again, why)
		}
	}
}

// 29.5

func TestOn(t *testing.T) {
	counts := map[api.Errno]int{}
	goesOn := func(p api.Past, l []string, s string, want api.Past, no api.Errno) {
		t.Helper()
		if counts[no]++; no != api.OK {
			want, no = api.Past{}, api.ErrCode
		}
		if q, why := snap.Load(append(slices.Clone(l), s)); !same(q, want) || why != no {
			t.Fatalf("%v, and %q: %v, error %d, not %v, %d", p, s, q, why, want, no)
		}
	}
	all := rights()
	for seed := range 40 {
		all = append(all, somePast(t, rand.New(rand.NewSource(int64(seed)))))
	}
	for _, p := range all {
		l, _ := snap.Records(p)
		for _, e := range slices.Concat(based().Events, linked().Events, []api.Event{event(api.EventUp, 70, 1, 500), event(api.EventUp, 70, 1, api.MaxTime), event(api.EventUp, 0, 1, 0), event(api.EventUp, 2, 7, 20)}) {
			s, why := snap.Event(e)
			if why != api.OK {
				t.Fatalf("Event: error %d", why)
			}
			q, why := past.Take(p, e)
			goesOn(p, l, s, q, why)
		}
		for _, at := range []int64{0, 6, 7, 8, 9, 11, 300, 1 << 39, api.MaxTime} {
			s, why := snap.Retain(at)
			if why != api.OK {
				t.Fatalf("Retain: error %d", why)
			}
			q, why := past.Retain(p, at)
			goesOn(p, l, s, q, why)
		}
	}
	for _, why := range []api.Errno{api.OK, api.ErrRouter, api.ErrSeq, api.ErrTime, api.ErrState, api.ErrFull, api.ErrExpired} {
		if counts[why] == 0 {
			t.Errorf("no sample has the error %d", why)
		}
	}
}

// 29.6

func TestSmall(t *testing.T) {
	all := rights()
	for seed := range 100 {
		all = append(all, somePast(t, rand.New(rand.NewSource(int64(seed)))))
	}
	for _, p := range all {
		bound := 16 + 24*len(p.Base.Routers) + 48*len(p.Events)
		for _, r := range p.Base.Routers {
			bound += 32*len(r.Routes) + 16*len(r.Links)
		}
		if n, why := snap.Size(p); n > bound || why != api.OK {
			t.Errorf("Size(%v): %d, error %d, above %d", p, n, why, bound)
		}
	}
	for kind, many := range map[string]int{plainHorizon(api.MaxTime): 16, plainSeat(api.Seat{Router: api.MaxId, Seq: api.MaxSeq, Time: api.MaxTime, Up: true}): 24,
		plainRoute(manyRoutes(1)[0]): 32, plainLink(manyLinks(1)[0]): 16, plainEvent(widest().Events[0]): 48} {
		if n, why := frame.Size(len(kind)); n > many || why != api.OK {
			t.Errorf("%q: a frame of %d bytes, above %d", kind, n, many)
		}
	}
}

// P1, P3, P4

// Far too many records, and far too long ones, come to an answer.
func TestLoadOfFarTooMuch(t *testing.T) {
	many := func(l []string, s string) []string { return slices.Concat(l, slices.Repeat([]string{s}, 1<<20)) }
	for i, l := range [][]string{
		many(nil, begin), many([]string{all7}, two), many([]string{all7, two}, near), many([]string{all7, two}, by0), many([]string{all7}, all7), many(nil, ""),
		{strings.Repeat("\x01", 1<<26)}, {strings.Repeat("\x06", 1<<26)}, {"\x05" + strings.Repeat("\x01", 1<<26)}, {all7, two, "\x03\x06\x80" + strings.Repeat("\xff", 1<<26)},
		{all7, "\x02" + strings.Repeat("\x80", 1<<26)}, {all7, two, "\x04\x01" + strings.Repeat("\x80", 1<<26)},
	} {
		if p, why := snap.Load(l); !same(p, api.Past{}) || why != api.ErrCode {
			t.Errorf("row %d: error %d", i, why)
		}
	}
	if p, why := snap.Load(slices.Repeat([]string{to7}, 1<<14)); p.Horizon != 7 || why != api.OK {
		t.Errorf("the same time, again and again: error %d", why)
	}
}

func FuzzAnyRecords(f *testing.F) {
	f.Add(all7, two, near, by0, begin)
	f.Add(none, begin, end, to8, "")
	f.Add("\x01\x03", "\x02\xff\xff\xff\xff\xff\xff\xff\xff\xff\x01", "\x05\x03", "\x06\x80", "\x07")
	f.Fuzz(func(t *testing.T, a, b, c, d, e string) {
		all := []string{a, b, c, d, e}
		for n := range 6 {
			if loads(t, all[:n]) {
				p, _ := snap.Load(all[:n])
				l, why := snap.Records(p)
				if q, no := snap.Load(l); !same(p, q) || why != api.OK || no != api.OK {
					t.Fatalf("%v came back as %v, errors %d and %d", p, q, why, no)
				}
			}
		}
	})
}

// Nil and empty lists are alike, room behind lists is no matter, and a call that is asked again answers the same.
func TestAnswersHangOnArgumentsAlone(t *testing.T) {
	for _, l := range [][]string{nil, {}, make([]string, 0, 9)} {
		if p, why := snap.Load(l); !same(p, past.Make()) || why != api.OK {
			t.Errorf("Load of nothing: %v, error %d", p, why)
		}
	}
	for _, p := range rights() {
		q := newMemory(p)
		q.Events = append(make([]api.Event, 0, len(q.Events)+9), q.Events...)
		q.Base.Seats = append(make([]api.Seat, 0, len(q.Base.Seats)+9), q.Base.Seats...)
		for i, r := range q.Base.Routers {
			if len(r.Routes) == 0 {
				q.Base.Routers[i].Routes = []api.Route{}
			}
		}
		a, why := snap.Records(p)
		b, no := snap.Records(q)
		n, nor := snap.Size(q)
		if !slices.Equal(a, b) || n != plainSize(t, a) || why != no || no != nor {
			t.Fatalf("%v has other records: %q, not %q", q, b, a)
		}
	}
}

func TestNoGoroutineIsLeft(t *testing.T) {
	before := runtime.NumGoroutine()
	for _, p := range slices.Concat(rights(), wrongs()) {
		l, _ := snap.Records(p)
		snap.Load(l)
		snap.Size(p)
	}
	snap.Event(event(api.EventUp, 4, 1, 5))
	snap.Retain(7)
	if after := runtime.NumGoroutine(); after > before {
		t.Errorf("%d goroutines, and %d ahead of the calls", after, before)
	}
}

// What a past's records come to is right, so that all calls take it.
func TestWhatIsLoadedIsRight(t *testing.T) {
	for seed := range 100 {
		p := somePast(t, rand.New(rand.NewSource(int64(seed))))
		q, why := snap.Load(plainRecords(p))
		if why != api.OK || past.Check(q) != api.OK || net.Check(q.Base) != api.OK {
			t.Fatalf("%v: %v, error %d", p, q, why)
		}
	}
}
