package gram_test

import (
	"math"
	"math/rand"
	"runtime"
	"slices"
	"strings"
	"testing"
	"unsafe"

	"spoor/api"
	"spoor/cutter"
	"spoor/gram"
	"spoor/msg"
)

// The calls have the signatures of doc/13-gram.md.
var (
	_ func(string) []api.Piece               = gram.Pieces
	_ func(string) []api.Got                 = gram.Gots
	_ func(api.Piece) (api.Got, api.Errno)   = gram.Of
	_ func(...api.Event) (string, api.Errno) = gram.Stream
)

var (
	bad  = api.Piece{Kind: api.PieceBad}
	long = api.Piece{Kind: api.PieceLong}
	up   = api.Event{Kind: api.EventUp, Router: 1, Seq: 1, Time: 5}
)

func body(s string) api.Piece {
	return api.Piece{Kind: api.PieceBody, Body: s}
}

// plainMessage is a message of any body of up to 65535 bytes.
func plainMessage(s string) string {
	return "\xf5" + string([]byte{byte(len(s) / 256), byte(len(s) % 256)}) + s
}

// plainPieces goes through a stream byte by byte, with what is still to come of the message that it is in.
func plainPieces(s string) []api.Piece {
	var l []api.Piece
	var head []byte // of the message that it is in
	var text []byte // of its body
	left, inRun := 0, false
	for i := range len(s) {
		switch b := s[i]; {
		case len(head) == 0 && b != 0xf5:
			if !inRun {
				l = append(l, bad)
			}
			inRun = true
		case len(head) < 3:
			inRun = false
			head = append(head, b)
			if len(head) < 3 {
				continue
			}
			left = int(head[1])*256 + int(head[2])
			if left == 0 || left > 64 {
				l = append(l, long)
			}
			if left == 0 {
				head = nil
			}
		default:
			text = append(text, b)
			if left--; left > 0 {
				continue
			}
			if len(text) <= 64 {
				l = append(l, body(string(text)))
			}
			head, text = nil, nil
		}
	}
	return l
}

// plainGots is what pieces come to.
func plainGots(l []api.Piece) []api.Got {
	var some []api.Got
	for _, p := range l {
		switch p.Kind {
		case api.PieceBad:
			some = append(some, api.Got{Why: api.ErrCode})
		case api.PieceLong:
			some = append(some, api.Got{Why: api.ErrLong})
		default:
			e, why := msg.Get(p.Body)
			if why != api.OK {
				why = api.ErrForm
			}
			some = append(some, api.Got{Event: e, Why: why})
		}
	}
	return some
}

// isPlain holds what a stream is, and comes to, against the plain forms.
func isPlain(t *testing.T, s string) {
	t.Helper()
	want := plainPieces(s)
	if l := gram.Pieces(s); !slices.Equal(l, want) {
		t.Fatalf("Pieces(%.99x): %q, not %q", s, l, want)
	}
	if l, want := gram.Gots(s), plainGots(want); !slices.Equal(l, want) {
		t.Fatalf("Gots(%.99x): %v, not %v", s, l, want)
	}
}

// streamOf is a right stream of events.
func streamOf(t *testing.T, events ...api.Event) string {
	t.Helper()
	s, why := gram.Stream(events...)
	if why != api.OK {
		t.Fatalf("Stream of %v: error %d", events, why)
	}
	return s
}

// events are right ones of all kinds, small and at their edges.
func events() []api.Event {
	four := api.Prefix{Addr: api.Addr{Lo: 10 << 24}, Len: 8}
	six := api.Prefix{Six: true, Addr: api.Addr{Hi: 0xf5f5f5f5f5f5f5f5, Lo: 0xf5f5f5f5f5f5f5f5}, Len: 128}
	var l []api.Event
	for _, head := range []api.Event{
		{Router: 1, Seq: 1, Time: 5},
		{Router: 0, Seq: 1, Time: 0},
		{Router: 0x75, Seq: 0xf5, Time: 0x3af5},
		{Router: api.MaxId, Seq: api.MaxSeq, Time: api.MaxTime},
	} {
		for kind := api.EventUp; kind < api.EventCount; kind++ {
			e := head
			e.Kind = kind
			switch kind {
			case api.EventAdd:
				for _, p := range []api.Prefix{four, six, {}, {Six: true}} {
					e.Prefix = p
					e.Action = api.Action{Kind: api.ActionForward, Iface: api.MaxIface}
					l = append(l, e)
					e.Action = api.Action{Kind: api.ActionDiscard}
					l = append(l, e)
				}
				e.Action = api.Action{Kind: api.ActionDeliver}
			case api.EventWithdraw:
				e.Prefix = six
			case api.EventLinkUp:
				e.Iface, e.Peer = api.MaxIface, api.MaxId
			case api.EventLinkDown:
				e.Iface = 7
			}
			l = append(l, e)
		}
	}
	return l
}

// wrongEvents are near right ones.
func wrongEvents() []api.Event {
	return []api.Event{
		{}, {Kind: api.EventUp}, {Kind: api.EventUp, Router: -1, Seq: 1}, {Kind: api.EventUp, Router: api.MaxId + 1, Seq: 1},
		{Kind: api.EventUp, Seq: api.MaxSeq + 1}, {Kind: api.EventUp, Seq: 1, Time: -1}, {Kind: api.EventUp, Seq: 1, Time: api.MaxTime + 1},
		{Kind: api.EventUp, Seq: math.MaxUint64, Time: math.MinInt64, Router: math.MaxInt},
		{Kind: api.EventCount, Seq: 1}, {Kind: 255, Seq: 1}, {Kind: api.EventUp, Seq: 1, Iface: 1}, {Kind: api.EventDown, Seq: 1, Peer: 1},
		{Kind: api.EventAdd, Seq: 1}, {Kind: api.EventAdd, Seq: 1, Prefix: api.Prefix{Len: 33}, Action: api.Action{Kind: api.ActionDeliver}},
		{Kind: api.EventWithdraw, Seq: 1, Prefix: api.Prefix{Addr: api.Addr{Lo: 1}}}, {Kind: api.EventLinkUp, Seq: 1, Peer: -1}, {Kind: api.EventLinkDown, Seq: 1, Iface: api.MaxIface + 1},
	}
}

// noise is so many bytes, some of them Magic.
func noise(r *rand.Rand, many int) string {
	b := make([]byte, many)
	for i := range b {
		b[i] = byte(r.Intn(256))
		if r.Intn(8) == 0 {
			b[i] = 0xf5
		}
	}
	return string(b)
}

// junk is so many bytes, none of them Magic.
func junk(r *rand.Rand, many int) string {
	return strings.ReplaceAll(noise(r, many), "\xf5", "\xf4")
}

// stream is events' messages, others, bytes of none, and messages that are too long or empty, by chance; it may end amid one.
func stream(t *testing.T, r *rand.Rand, parts int) string {
	t.Helper()
	all := events()
	var b strings.Builder
	for range r.Intn(parts + 1) {
		switch r.Intn(7) {
		case 0:
			b.WriteString(noise(r, 1+r.Intn(9)))
		case 1:
			b.WriteString(plainMessage(noise(r, 65+r.Intn(300))))
		case 2:
			b.WriteString("\xf5\x00\x00")
		case 3:
			b.WriteString(junk(r, 1+r.Intn(5)))
		case 4:
			b.WriteString(plainMessage(noise(r, 1+r.Intn(64))))
		default:
			b.WriteString(streamOf(t, all[r.Intn(len(all))]))
		}
	}
	s := b.String()
	if r.Intn(3) == 0 {
		return s[:r.Intn(len(s)+1)]
	}
	return s
}

// 13.1

func TestExamples(t *testing.T) {
	s, why := gram.Stream(up)
	if s != "\xf5\x00\x04\x01\x01\x01\x05" || why != api.OK {
		t.Errorf("Stream(up): %x, error %d", s, why)
	}
	if l := gram.Gots(s + "\x00"); !slices.Equal(l, []api.Got{{Event: up}, {Why: api.ErrCode}}) {
		t.Errorf("Gots of an event and 00: %v", l)
	}
	if l := gram.Pieces(s + "\x00"); !slices.Equal(l, []api.Piece{body("\x01\x01\x01\x05"), bad}) {
		t.Errorf("Pieces of an event and 00: %q", l)
	}
}

func TestPiecesByTheGrammar(t *testing.T) {
	most := strings.Repeat("m", 64)
	for _, c := range []struct {
		s string
		l []api.Piece
	}{
		{"", nil},
		{"a", []api.Piece{bad}},
		{"\x00\xff\xf4\xf6", []api.Piece{bad}},
		{strings.Repeat("a", 9999), []api.Piece{bad}},
		{"\xf5", nil},
		{"\xf5\x00", nil},
		{"\xf5\xf5", nil},
		{"aa\xf5", []api.Piece{bad}},
		{"\xf5\x00\x01", nil},
		{"\xf5\x00\x00", []api.Piece{long}},
		{"\xf5\x00\x00a\xf5\x00\x00aa", []api.Piece{long, bad, long, bad}},
		{"\xf5\x00\x00\xf5\x00\x00", []api.Piece{long, long}},
		{"\xf5\x00\x01a", []api.Piece{body("a")}},
		{"\xf5\x00\x01\xf5", []api.Piece{body("\xf5")}},
		{"\xf5\x00\x01ab", []api.Piece{body("a"), bad}},
		{"\xf5\x00\x02a", nil},
		{"\xf5\x00\x02\xf5\xf5\xf5", []api.Piece{body("\xf5\xf5")}},
		{"\xf5\x00\x40" + most, []api.Piece{body(most)}},
		{"\xf5\x00\x40" + most[1:], nil},
		{"\xf5\x00\x40" + most + "\xf5\x00\x01b", []api.Piece{body(most), body("b")}},
		{"\xf5\x00\x41", []api.Piece{long}},
		{"\xf5\x00\x41" + most, []api.Piece{long}},
		{"\xf5\x00\x41" + most + "\xf5", []api.Piece{long}},
		{"\xf5\x00\x41" + most + "\xf5z", []api.Piece{long, bad}},
		{"\xf5\x00\x41" + most + "z\xf5\x00\x01b", []api.Piece{long, body("b")}},
		{"\xf5\x01\x00" + strings.Repeat("\xf5", 256) + "\xf5\x00\x01b", []api.Piece{long, body("b")}},
		{"\xf5\xff\xff" + strings.Repeat("\xf5", 65534), []api.Piece{long}},
		{"\xf5\xff\xff" + strings.Repeat("\xf5", 65535), []api.Piece{long}},
		{"\xf5\xff\xff" + strings.Repeat("\xf5", 65535) + "a", []api.Piece{long, bad}},
		{"\xf5\xf5\xf5", []api.Piece{long}},
		{"\u00f5", []api.Piece{bad}},
	} {
		if l := gram.Pieces(c.s); !slices.Equal(l, c.l) {
			t.Errorf("Pieces(%.40x): %q, not %q", c.s, l, c.l)
		}
		isPlain(t, c.s)
	}
}

func TestEachLength(t *testing.T) {
	for many := range 1 << 16 {
		head := "\xf5" + string([]byte{byte(many / 256), byte(many % 256)})
		var begun []api.Piece // once the length is there
		if many == 0 || many > 64 {
			begun = []api.Piece{long}
		}
		if l := gram.Pieces(head); !slices.Equal(l, begun) {
			t.Fatalf("Pieces(%x): %q", head, l)
		}
		if many > 300 && many%997 > 0 && many < 65530 {
			continue // long texts of each length would take too long
		}
		text, whole := strings.Repeat("\xf5", many), begun
		if begun == nil {
			whole = []api.Piece{body(text)}
		}
		if l := gram.Pieces(head + text); !slices.Equal(l, whole) {
			t.Fatalf("Pieces of a message of %d bytes: %q", many, l)
		}
		if l := gram.Pieces(head + text + "z\xf5\x00\x01a"); !slices.Equal(l, slices.Concat(whole, []api.Piece{bad, body("a")})) {
			t.Fatalf("Pieces of a message of %d bytes, and more: %q", many, l)
		}
		if l := gram.Pieces(head + text[min(many, 1):]); !slices.Equal(l, begun) {
			t.Fatalf("Pieces of a message of %d bytes but one: %q", many, l)
		}
	}
}

// shorts are all texts of up to most bytes, each one of a few at which something turns.
func shorts(most int) []string {
	l := []string{""}
	for from := 0; most > 0; most-- {
		to := len(l)
		for _, s := range l[from:to] {
			for _, b := range []string{"\xf5", "\x00", "\x01", "\x02", "\x41", "a"} {
				l = append(l, s+b)
			}
		}
		from = to
	}
	return l
}

func TestAllShortStreams(t *testing.T) {
	for _, s := range shorts(7) {
		isPlain(t, s)
	}
	lead := streamOf(t, up)
	for _, s := range shorts(4) {
		isPlain(t, lead+s+lead)
	}
}

func TestStreamsByChance(t *testing.T) {
	r := rand.New(rand.NewSource(13))
	for range 5000 {
		isPlain(t, stream(t, r, 12))
	}
}

func TestGots(t *testing.T) {
	s := streamOf(t, up)
	for _, c := range []struct {
		s string
		l []api.Got
	}{
		{"", nil},
		{s, []api.Got{{Event: up}}},
		{s + s, []api.Got{{Event: up}, {Event: up}}},
		{s[:len(s)-1], nil},
		{"\x00" + s, []api.Got{{Why: api.ErrCode}, {Event: up}}},
		{"\xf5\x00\x00" + s, []api.Got{{Why: api.ErrLong}, {Event: up}}},
		{"\xf5\x00\x41" + s, []api.Got{{Why: api.ErrLong}}},
		{"\xf5\x00\x41" + strings.Repeat("\x01", 65) + s, []api.Got{{Why: api.ErrLong}, {Event: up}}},
		{"\xf5\x00\x01\x01" + s, []api.Got{{Why: api.ErrForm}, {Event: up}}},
		{"\xf5\x00\x03\x01\x01\x01\x05" + s, []api.Got{{Why: api.ErrForm}, {Why: api.ErrCode}, {Event: up}}},
		{"\xf5\x00\x05\x01\x01\x01\x05\x00" + s, []api.Got{{Why: api.ErrForm}, {Event: up}}},
		{"\xf5\x00\x04\x01\x01\x00\x05" + s, []api.Got{{Why: api.ErrForm}, {Event: up}}},
		{"\xf5\x00\x04\x07\x01\x01\x05" + s, []api.Got{{Why: api.ErrForm}, {Event: up}}},
		{"\xf5\x00\x05\x01\x81\x00\x01\x05" + s, []api.Got{{Why: api.ErrForm}, {Event: up}}},
	} {
		if l := gram.Gots(c.s); !slices.Equal(l, c.l) {
			t.Errorf("Gots(%.40x): %v, not %v", c.s, l, c.l)
		}
	}
}

func TestOfEachKind(t *testing.T) {
	right := "\x01\x01\x01\x05"
	for kind := range 256 {
		for _, text := range []string{"", "?", right, "\x00", strings.Repeat("a", 64), strings.Repeat("a", 65), strings.Repeat("a", 1<<20)} {
			var want api.Got
			no := api.OK
			switch api.PieceKind(kind) {
			case api.PieceBody:
				want.Why = api.ErrForm
				if text == right {
					want = api.Got{Event: up}
				}
			case api.PieceBad:
				want.Why = api.ErrCode
			case api.PieceLong:
				want.Why = api.ErrLong
			default:
				no = api.ErrForm
			}
			if text != "" && api.PieceKind(kind) != api.PieceBody {
				want, no = api.Got{}, api.ErrForm
			}
			if g, why := gram.Of(api.Piece{Kind: api.PieceKind(kind), Body: text}); g != want || why != no {
				t.Errorf("Of(%d, %.9q): %v, error %d, not %v, %d", kind, text, g, why, want, no)
			}
		}
	}
}

func TestOfEachEventsBody(t *testing.T) {
	for _, e := range events() {
		text, why := msg.Put(e)
		if why != api.OK {
			t.Fatalf("Put(%v): error %d", e, why)
		}
		if g, why := gram.Of(body(text)); g != (api.Got{Event: e}) || why != api.OK {
			t.Errorf("Of %v's body: %v, error %d", e, g, why)
		}
		for _, s := range []string{text[:len(text)-1], text + "\x00", "\x00" + text} {
			if g, why := gram.Of(body(s)); g != (api.Got{Why: api.ErrForm}) || why != api.OK {
				t.Errorf("Of(%x): %v, error %d", s, g, why)
			}
		}
	}
}

// What a stream comes to is what comes of its pieces.
func TestGotsAreOfThePieces(t *testing.T) {
	r := rand.New(rand.NewSource(130))
	for range 2000 {
		s := stream(t, r, 12)
		var want []api.Got
		for _, p := range gram.Pieces(s) {
			g, why := gram.Of(p)
			if why != api.OK {
				t.Fatalf("Of(%q): error %d", p, why)
			}
			want = append(want, g)
		}
		if l := gram.Gots(s); !slices.Equal(l, want) {
			t.Fatalf("Gots(%x): %v, not %v", s, l, want)
		}
	}
}

func TestStreamIsTheMessages(t *testing.T) {
	for _, l := range [][]api.Event{nil, {}} {
		if s, why := gram.Stream(l...); s != "" || why != api.OK {
			t.Errorf("Stream of nothing: %x, error %d", s, why)
		}
	}
	want := ""
	for _, e := range events() {
		text, _ := msg.Put(e)
		if s, why := gram.Stream(e); s != plainMessage(text) || why != api.OK {
			t.Errorf("Stream(%v): %x, error %d", e, s, why)
		}
		want += plainMessage(text)
	}
	if s, why := gram.Stream(events()...); s != want || why != api.OK {
		t.Errorf("Stream of all: %d bytes, error %d", len(s), why)
	}
}

func TestStreamRefusesWhatIsNotRight(t *testing.T) {
	some := events()[:9]
	for _, e := range wrongEvents() {
		for at := range len(some) + 1 {
			if s, why := gram.Stream(slices.Insert(slices.Clone(some), at, e)...); s != "" || why != api.ErrForm {
				t.Errorf("Stream with %v at %d: %x, error %d", e, at, s, why)
			}
		}
	}
}

// 13.2

// share tells whether two texts lie in the same memory, in part at least. (Of single bytes Go itself keeps one copy each.)
func share(a, b string) bool {
	if len(a) < 2 || len(b) < 2 {
		return false
	}
	fromA, fromB := uintptr(unsafe.Pointer(unsafe.StringData(a))), uintptr(unsafe.Pointer(unsafe.StringData(b)))
	return fromA < fromB+uintptr(len(b)) && fromB < fromA+uintptr(len(a))
}

func TestTextsAreNewMemory(t *testing.T) {
	s := "z" + plainMessage("some bytes") + plainMessage("other bytes") + plainMessage(strings.Repeat("m", 64))
	alone := plainMessage("alone")
	tell := func() []string {
		var all []string
		for _, p := range slices.Concat(gram.Pieces(s), gram.Pieces(alone)) {
			all = append(all, p.Body)
		}
		return append(all, streamOf(t, up), streamOf(t, up, up))
	}
	all := slices.Concat(tell(), tell(), []string{s, alone})
	for i, a := range all {
		for k, b := range all[:i] {
			if share(a, b) {
				t.Errorf("texts %d and %d share memory", k, i)
			}
		}
	}
}

func TestLaterCallsLeaveAnswersAlone(t *testing.T) {
	s := streamOf(t, up) + "z" + streamOf(t, up)
	want := []api.Piece{body("\x01\x01\x01\x05"), bad, body("\x01\x01\x01\x05")}
	wanted := []api.Got{{Event: up}, {Why: api.ErrCode}, {Event: up}}
	l, m, n, o := gram.Pieces(s), gram.Pieces(s), gram.Gots(s), gram.Gots(s)
	for i := range l[:cap(l)] {
		l[:cap(l)][i] = body("spoilt")
	}
	for i := range n[:cap(n)] {
		n[:cap(n)][i] = api.Got{Why: api.ErrPower}
	}
	if !slices.Equal(m, want) || !slices.Equal(gram.Pieces(s), want) || !slices.Equal(o, wanted) || !slices.Equal(gram.Gots(s), wanted) {
		t.Errorf("answers turned: %q, %v", m, o)
	}
}

func TestEventsStayAsTheyAre(t *testing.T) {
	l := events()
	gram.Stream(l...)
	if !slices.Equal(l, events()) {
		t.Errorf("events turned: %v", l)
	}
}

// 13.3

// inChunks feeds a stream to a new cutter, cut at each place where more says so.
func inChunks(t *testing.T, s string, more func() int) []api.Piece {
	t.Helper()
	var all []api.Piece
	var c api.Cut
	for s != "" {
		many := min(more(), len(s))
		d, l, why := cutter.Feed(c, s[:many])
		if why != api.OK {
			t.Fatalf("Feed(%#v, %x): error %d", c, s[:many], why)
		}
		c, s, all = d, s[many:], append(all, l...)
	}
	return all
}

func TestAsTheyCome(t *testing.T) {
	r := rand.New(rand.NewSource(133))
	for range 2000 {
		s := stream(t, r, 10)
		want := gram.Pieces(s)
		for _, more := range []func() int{
			func() int { return len(s) },
			func() int { return 1 },
			func() int { return 2 },
			func() int { return r.Intn(4) },
			func() int { return r.Intn(100) },
		} {
			if l := inChunks(t, s, more); !slices.Equal(l, want) {
				t.Fatalf("%x in chunks: %q, not %q", s, l, want)
			}
		}
	}
	for _, s := range shorts(6) {
		if l, want := gram.Pieces(s), inChunks(t, s, func() int { return 1 }); !slices.Equal(l, want) {
			t.Fatalf("Pieces(%x): %q, not %q", s, l, want)
		}
	}
}

func TestCutAtEachPlace(t *testing.T) {
	s := "ab" + streamOf(t, up) + "\xf5\x00\x00" + plainMessage(strings.Repeat("\xf5", 64)) + plainMessage(strings.Repeat("e", 65)) + "f" + streamOf(t, up) + "\xf5\x00\x03h"
	want := []api.Piece{bad, body("\x01\x01\x01\x05"), long, body(strings.Repeat("\xf5", 64)), long, bad, body("\x01\x01\x01\x05")}
	if l := gram.Pieces(s); !slices.Equal(l, want) {
		t.Fatalf("Pieces: %q, not %q", l, want)
	}
	for a := range len(s) + 1 {
		for b := a; b <= len(s); b++ {
			at := 0
			steps := []int{a, b - a, len(s) - b}
			if l := inChunks(t, s, func() int { at++; return steps[at-1] }); !slices.Equal(l, want) {
				t.Fatalf("cut at %d and %d: %q", a, b, l)
			}
		}
	}
}

// 13.4

// gotsOf is what a stream of events must come to.
func gotsOf(events []api.Event) []api.Got {
	var l []api.Got
	for _, e := range events {
		l = append(l, api.Got{Event: e})
	}
	return l
}

func TestThereAndBack(t *testing.T) {
	all := events()
	if l := gram.Gots(streamOf(t, all...)); !slices.Equal(l, gotsOf(all)) {
		t.Errorf("Gots of all: %v", l)
	}
	r := rand.New(rand.NewSource(134))
	for range 1000 {
		some := make([]api.Event, r.Intn(30))
		for i := range some {
			some[i] = all[r.Intn(len(all))]
		}
		if l := gram.Gots(streamOf(t, some...)); !slices.Equal(l, gotsOf(some)) {
			t.Fatalf("Gots of %v: %v", some, l)
		}
	}
}

// A stream that ends amid a message comes to the events ahead of it.
func TestCutOffAnywhere(t *testing.T) {
	var s string
	all := events()
	var ends []int
	for _, e := range all {
		s += streamOf(t, e)
		ends = append(ends, len(s))
	}
	for at := range len(s) + 1 {
		whole := 0
		for whole < len(ends) && ends[whole] <= at {
			whole++
		}
		if l := gram.Gots(s[:at]); !slices.Equal(l, gotsOf(all[:whole])) {
			t.Fatalf("Gots of the first %d bytes: %v", at, l)
		}
	}
}

// 13.5

func TestNoHarm(t *testing.T) {
	r := rand.New(rand.NewSource(135))
	all := events()
	ask := func(left, between, right string) {
		t.Helper()
		want := slices.Concat(gram.Gots(left), []api.Got{{Why: api.ErrCode}}, gram.Gots(right))
		if l := gram.Gots(left + between + right); !slices.Equal(l, want) {
			t.Fatalf("Gots with %.40x between: %v, not %v", between, l, want)
		}
		if l := gram.Gots(left + right); len(l) != len(want)-1 {
			t.Fatalf("Gots with nothing between: %v", l)
		}
	}
	for b := range 256 {
		if b == api.Magic {
			continue
		}
		for _, many := range []int{1, 2, 3, 64, 65, 300} {
			ask(streamOf(t, up), strings.Repeat(string([]byte{byte(b)}), many), streamOf(t, up))
		}
	}
	for range 500 {
		at := r.Intn(len(all) + 1)
		ask(streamOf(t, all[:at]...), junk(r, 1+r.Intn(500)), streamOf(t, all[at:]...))
	}
	for _, m := range []string{plainMessage("?"), plainMessage(strings.Repeat("\xf5", 65)), "\xf5\x00\x00"} {
		ask(m, junk(r, 9), m)
		ask(m, junk(r, 9), streamOf(t, up))
		ask(streamOf(t, up), junk(r, 9), m)
	}
}

func FuzzAnyBytes(f *testing.F) {
	f.Add("\xf5\x00\x04\x01\x01\x01\x05\x00", uint8(1), "?")
	f.Add("\x00\x00\xf5\x00\x00\xf5\x00\x41a", uint8(2), "")
	f.Add("\xf5\xf5\xf5", uint8(9), "\x01\x01\x01\x05")
	f.Fuzz(func(t *testing.T, s string, kind uint8, text string) {
		isPlain(t, s)
		if l, want := gram.Pieces(s), inChunks(t, s, func() int { return 3 }); !slices.Equal(l, want) {
			t.Fatalf("Pieces(%x): %q, not %q", s, l, want)
		}
		p := api.Piece{Kind: api.PieceKind(kind), Body: text}
		g, why := gram.Of(p)
		isRight := p == bad || p == long || p.Kind == api.PieceBody
		if isRight != (why == api.OK) || !isRight && (g != api.Got{} || why != api.ErrForm) {
			t.Fatalf("Of(%q): %v, error %d", p, g, why)
		}
		if isRight && !slices.Equal([]api.Got{g}, plainGots([]api.Piece{p})) {
			t.Fatalf("Of(%q): %v", p, g)
		}
	})
}

// P1, P3, P4

// A long stream takes no longer than its length asks for.
func TestALongStream(t *testing.T) {
	many := 1 << 16
	s := streamOf(t, slices.Repeat([]api.Event{up}, many)...)
	if l, m := gram.Pieces(s), gram.Gots(s); len(l) != many || len(m) != many || m[many-1] != (api.Got{Event: up}) {
		t.Errorf("a long stream: %d pieces, %d gots", len(l), len(m))
	}
	if l := gram.Pieces(strings.Repeat("a", 1<<24)); !slices.Equal(l, []api.Piece{bad}) {
		t.Errorf("a long run: %d pieces", len(l))
	}
	if l := gram.Pieces(strings.Repeat("\xf5\x00\x00a", 1<<18)); len(l) != 1<<19 {
		t.Errorf("runs: %d pieces", len(l))
	}
	if l := gram.Gots(strings.Repeat("\xf5", 1<<22)); len(l) != (1<<22)/(3+0xf5f5)+1 {
		t.Errorf("Magic alone: %d gots", len(l))
	}
}

func TestAnswersHangOnArgumentsAlone(t *testing.T) {
	r := rand.New(rand.NewSource(131))
	s := stream(t, r, 60)
	pieces, gots, whole := gram.Pieces(s), gram.Gots(s), streamOf(t, events()...)
	for range 3 {
		gram.Gots("a\xf5\x00\x02b")
		gram.Stream(api.Event{})
		if !slices.Equal(gram.Pieces(strings.Clone(s)), pieces) || !slices.Equal(gram.Gots(strings.Clone(s)), gots) || streamOf(t, events()...) != whole {
			t.Fatal("answers turned")
		}
	}
}

func TestNoGoroutineIsLeft(t *testing.T) {
	before := runtime.NumGoroutine()
	for _, s := range shorts(3) {
		gram.Pieces(s)
		gram.Gots(s)
		gram.Of(body(s))
	}
	gram.Stream(events()...)
	gram.Stream(wrongEvents()...)
	if after := runtime.NumGoroutine(); after > before {
		t.Errorf("%d goroutines, and %d ahead of the calls", after, before)
	}
}
