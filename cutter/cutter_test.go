package cutter_test

import (
	"math"
	"math/rand"
	"runtime"
	"slices"
	"strings"
	"testing"
	"unsafe"

	"spoor/api"
	"spoor/cutter"
)

// The calls have the signatures of doc/12-cutter.md.
var (
	_ func(api.Cut) api.Errno                                 = cutter.Check
	_ func(api.Cut, string) (api.Cut, []api.Piece, api.Errno) = cutter.Feed
	_ func(string) (string, api.Errno)                        = cutter.Wrap
)

var (
	bad  = api.Piece{Kind: api.PieceBad}
	long = api.Piece{Kind: api.PieceLong}
)

func body(s string) api.Piece {
	return api.Piece{Kind: api.PieceBody, Body: s}
}

// plainMessage is a message of any body of up to 65535 bytes.
func plainMessage(s string) string {
	return "\xf5" + string([]byte{byte(len(s) / 256), byte(len(s) % 256)}) + s
}

// plainCut cuts a whole stream, seen from its beginning: not byte by byte, but message by message.
func plainCut(s string) (api.Cut, []api.Piece) {
	var l []api.Piece
	for s != "" {
		at := strings.IndexByte(s, 0xf5)
		if at != 0 {
			l = append(l, bad)
			if at < 0 {
				return api.Cut{Bad: true}, l
			}
			s = s[at:]
		}
		if len(s) < 3 {
			return api.Cut{Rest: s}, l
		}
		many := int(s[1])*256 + int(s[2])
		switch behind := len(s) - 3; {
		case many == 0 || many > 64:
			l = append(l, long)
			if behind < many {
				return api.Cut{Skip: many - behind}, l
			}
		case behind < many:
			return api.Cut{Rest: s}, l
		default:
			l = append(l, body(s[3:3+many]))
		}
		s = s[3+many:]
	}
	return api.Cut{}, l
}

// leadTo is bytes behind which a new cutter is c, which is right.
func leadTo(c api.Cut) string {
	switch {
	case c.Rest != "":
		return c.Rest
	case c.Bad:
		return "\x00"
	case c.Skip > 0:
		return "\xf5\xff\xff" + strings.Repeat("\x07", 65535-c.Skip)
	}
	return ""
}

// rests are right ones of all lengths at which something turns, but the empty one.
func rests() []string {
	l := []string{"\xf5", "\xf5\x00", "\xf5\x01", "\xf5\x40", "\xf5\xf5", "\xf5\xff", "\xf5\x00\x01", "\xf5\x00\x02", "\xf5\x00\x02\xf5", "\xf5\x00\x03\xf5\xf5", "\xf5\x00\x40"}
	for _, many := range []int{1, 2, 3, 40, 62, 63} {
		l = append(l, "\xf5\x00\x40"+strings.Repeat("r", many))
	}
	return l
}

// cutters are right ones.
func cutters() []api.Cut {
	l := []api.Cut{{}, {Bad: true}}
	for _, s := range rests() {
		l = append(l, api.Cut{Rest: s})
	}
	for _, n := range []int{1, 2, 3, 63, 64, 65, 255, 256, 65534, 65535} {
		l = append(l, api.Cut{Skip: n})
	}
	return l
}

// wrongs are cutters that are not right.
func wrongs() []api.Cut {
	l := []api.Cut{
		{Skip: -1}, {Skip: math.MinInt}, {Skip: 65536}, {Skip: 1 << 32}, {Skip: math.MaxInt},
		{Bad: true, Skip: 1}, {Bad: true, Skip: 65535}, {Bad: true, Skip: -1}, {Bad: true, Skip: 65536},
	}
	for _, s := range rests() {
		l = append(l, api.Cut{Rest: s, Bad: true}, api.Cut{Rest: s, Skip: 1}, api.Cut{Rest: s, Bad: true, Skip: 1}, api.Cut{Rest: s, Skip: -1}, api.Cut{Rest: s, Skip: 65536})
	}
	for _, s := range []string{
		"a", "\x00", "\xf4", "\xf6", "a\xf5", "\x00\xf5\x00", "z\x00\x02a", "\u00f5",
		"\xf5\x00\x00", "\xf5\x00\x41", "\xf5\x00\xff", "\xf5\x01\x00", "\xf5\x01\x01", "\xf5\xff\xff", "\xf5\x40\x00", "\xf5\x00\x41a", "\xf5\x01\x01a",
		"\xf5\x00\x01a", "\xf5\x00\x01ab", "\xf5\x00\x02ab", "\xf5\x00\x02abc", "\xf5\x00\x00a",
		"\xf5\x00\x40" + strings.Repeat("r", 64), "\xf5\x00\x40" + strings.Repeat("r", 65), "\xf5\x00\x01" + strings.Repeat("r", 70000), strings.Repeat("\xf5", 5), strings.Repeat("a", 1<<20),
	} {
		l = append(l, api.Cut{Rest: s})
	}
	return l
}

// 12.1

func TestCheckTakesWhatIsRight(t *testing.T) {
	for _, c := range cutters() {
		if why := cutter.Check(c); why != api.OK {
			t.Errorf("Check(%#v): error %d", c, why)
		}
	}
}

func TestWhatIsNotRightIsRefused(t *testing.T) {
	for _, c := range wrongs() {
		if why := cutter.Check(c); why != api.ErrForm {
			t.Errorf("Check(%.90q, %t, %d): error %d", c.Rest, c.Bad, c.Skip, why)
		}
		for _, chunk := range []string{"", "a", "\xf5\x00\x01a", "\x00\xf5"} {
			if d, l, why := cutter.Feed(c, chunk); d != (api.Cut{}) || len(l) != 0 || why != api.ErrForm {
				t.Errorf("Feed(%.90q, %t, %d): %#v, %#v, error %d", c.Rest, c.Bad, c.Skip, d, l, why)
			}
		}
	}
}

// A text may be a Rest just if it is a new cutter's when its bytes have come.
func TestRestIsRightIfBytesComeToIt(t *testing.T) {
	ask := func(s string) {
		t.Helper()
		want := api.ErrForm
		if c, _ := plainCut(s); c == (api.Cut{Rest: s}) {
			want = api.OK
		}
		if why := cutter.Check(api.Cut{Rest: s}); why != want {
			t.Errorf("Check of the Rest %x: error %d, not %d", s, why, want)
		}
	}
	ask("")
	for a := range 256 {
		ask(string([]byte{byte(a)}))
		for b := range 256 {
			ask(string([]byte{0xf5, byte(a), byte(b)}))
			ask(string([]byte{0xf5, byte(a), byte(b), 7}))
			ask(string([]byte{byte(a), byte(b)}))
		}
	}
	for many := range 68 {
		for behind := range 68 {
			ask("\xf5\x00" + string([]byte{byte(many)}) + strings.Repeat("b", behind))
		}
	}
}

func TestExamples(t *testing.T) {
	for _, c := range []struct {
		from  api.Cut
		chunk string
		to    api.Cut
		l     []api.Piece
	}{
		{api.Cut{}, "\xf5\x00\x01\x07", api.Cut{}, []api.Piece{body("\x07")}},
		{api.Cut{}, "\x00\x00\xf5\x00\x00", api.Cut{}, []api.Piece{bad, long}},
		{api.Cut{}, "", api.Cut{}, nil},
		{api.Cut{}, "a", api.Cut{Bad: true}, []api.Piece{bad}},
		{api.Cut{}, strings.Repeat("a", 9999), api.Cut{Bad: true}, []api.Piece{bad}},
		{api.Cut{Bad: true}, "aaa", api.Cut{Bad: true}, nil},
		{api.Cut{Bad: true}, "a\xf5", api.Cut{Rest: "\xf5"}, nil},
		{api.Cut{Bad: true}, "\xf5\x00\x00a", api.Cut{Bad: true}, []api.Piece{long, bad}},
		{api.Cut{}, "\xf5\x00\x01aa\xf5\x00\x01b", api.Cut{}, []api.Piece{body("a"), bad, body("b")}},
		{api.Cut{}, "\xf5\x00\x02\xf5\xf5", api.Cut{}, []api.Piece{body("\xf5\xf5")}},
		{api.Cut{}, "\xf5\xf5\xf5", api.Cut{Skip: 0xf5f5}, []api.Piece{long}},
		{api.Cut{}, "\xf5\x00\x41", api.Cut{Skip: 65}, []api.Piece{long}},
		{api.Cut{}, "\xf5\x00\x41" + strings.Repeat("\xf5", 65) + "z", api.Cut{Bad: true}, []api.Piece{long, bad}},
		{api.Cut{}, "\xf5\x00\x40" + strings.Repeat("\xf5", 64) + "\xf5", api.Cut{Rest: "\xf5"}, []api.Piece{body(strings.Repeat("\xf5", 64))}},
		{api.Cut{}, "\xf5\xff\xff", api.Cut{Skip: 65535}, []api.Piece{long}},
		{api.Cut{Skip: 65535}, strings.Repeat("a", 65534), api.Cut{Skip: 1}, nil},
		{api.Cut{Skip: 1}, "\xf5", api.Cut{}, nil},
		{api.Cut{Skip: 1}, "\xf5\xf5", api.Cut{Rest: "\xf5"}, nil},
		{api.Cut{Skip: 2}, "aaa", api.Cut{Bad: true}, []api.Piece{bad}},
		{api.Cut{Rest: "\xf5\x01"}, "\x00", api.Cut{Skip: 256}, []api.Piece{long}},
		{api.Cut{Rest: "\xf5\x00\x02a"}, "b", api.Cut{}, []api.Piece{body("ab")}},
		{api.Cut{Rest: "\xf5\x00\x02a"}, "", api.Cut{Rest: "\xf5\x00\x02a"}, nil},
	} {
		if d, l, why := cutter.Feed(c.from, c.chunk); d != c.to || !slices.Equal(l, c.l) || why != api.OK {
			t.Errorf("Feed(%#v, %.40x): %#v, %q, error %d, not %#v, %q", c.from, c.chunk, d, l, why, c.to, c.l)
		}
	}
}

// feedsAsPlain holds what comes of a chunk at a right cutter against the whole stream, cut from its beginning.
func feedsAsPlain(t *testing.T, c api.Cut, chunk string) {
	t.Helper()
	lead := leadTo(c)
	_, ahead := plainCut(lead)
	to, all := plainCut(lead + chunk)
	d, l, why := cutter.Feed(c, chunk)
	if d != to || !slices.Equal(l, all[len(ahead):]) || why != api.OK {
		t.Fatalf("Feed(%#v, %.99x): %#v, %q, error %d, not %#v, %q", c, chunk, d, l, why, to, all[len(ahead):])
	}
	if why := cutter.Check(d); why != api.OK {
		t.Fatalf("Feed(%#v, %.99x): %#v, which is not right", c, chunk, d)
	}
}

// Each right cutter is one to which bytes come.
func TestLeads(t *testing.T) {
	for _, c := range cutters() {
		if d, _, why := cutter.Feed(api.Cut{}, leadTo(c)); d != c || why != api.OK {
			t.Errorf("behind its lead %#v is %#v, error %d", c, d, why)
		}
	}
}

func TestEachByteAtEachCutter(t *testing.T) {
	for _, c := range cutters() {
		for b := range 256 {
			feedsAsPlain(t, c, string([]byte{byte(b)}))
		}
	}
}

// shorts are all texts of up to most bytes, each one of a few at which something turns.
func shorts(most int) []string {
	l := []string{""}
	for from := 0; most > 0; most-- {
		to := len(l)
		for _, s := range l[from:to] {
			for _, b := range []string{"\xf5", "\x00", "\x01", "\x02", "\x41", "a"} {
				l = append(l, s+b)
			}
		}
		from = to
	}
	return l
}

func TestAllShortStreams(t *testing.T) {
	for _, s := range shorts(7) {
		feedsAsPlain(t, api.Cut{}, s)
	}
	for _, c := range cutters() {
		for _, s := range shorts(4) {
			feedsAsPlain(t, c, s)
		}
	}
}

func TestWrapIsTheMessage(t *testing.T) {
	if s, why := cutter.Wrap("ab"); s != "\xf5\x00\x02ab" || why != api.OK {
		t.Errorf("Wrap(ab): %x, error %d", s, why)
	}
	for many := range 200 {
		for _, b := range []string{"a", "\xf5", "\x00"} {
			s := strings.Repeat(b, many)
			want, no := plainMessage(s), api.OK
			if many == 0 || many > 64 {
				want, no = "", api.ErrLong
			}
			if got, why := cutter.Wrap(s); got != want || why != no {
				t.Errorf("Wrap of %d bytes: %x, error %d", many, got, why)
			}
		}
	}
	for _, many := range []int{255, 256, 257, 65535, 65536, 65537, 65600, 1 << 20} {
		if got, why := cutter.Wrap(strings.Repeat("a", many)); got != "" || why != api.ErrLong {
			t.Errorf("Wrap of %d bytes: %d bytes, error %d", many, len(got), why)
		}
	}
}

// 12.2

// share tells whether two texts lie in the same memory, in part at least. (Of single bytes Go itself keeps one copy each.)
func share(a, b string) bool {
	if len(a) < 2 || len(b) < 2 {
		return false
	}
	fromA, fromB := uintptr(unsafe.Pointer(unsafe.StringData(a))), uintptr(unsafe.Pointer(unsafe.StringData(b)))
	return fromA < fromB+uintptr(len(b)) && fromB < fromA+uintptr(len(a))
}

func TestTextsAreNewMemory(t *testing.T) {
	c := api.Cut{Rest: strings.Clone("\xf5\x00\x04abc")}
	chunk := "d" + plainMessage("some bytes") + plainMessage("other bytes") + "\xf5\x00\x05xyz"
	most := strings.Repeat("m", api.MaxBody)
	tell := func() []string {
		d, l, _ := cutter.Feed(c, chunk)
		e, _, _ := cutter.Feed(c, "")
		_, whole, _ := cutter.Feed(api.Cut{}, plainMessage(most))
		f, _ := cutter.Wrap(most)
		all := []string{d.Rest, e.Rest, f, whole[0].Body}
		for _, p := range l {
			all = append(all, p.Body)
		}
		return all
	}
	all := slices.Concat(tell(), tell(), []string{c.Rest, chunk, most})
	for i, a := range all {
		for k, b := range all[:i] {
			if share(a, b) {
				t.Errorf("texts %d and %d share memory", k, i)
			}
		}
	}
}

func TestLaterCallsLeaveAnswersAlone(t *testing.T) {
	s := plainMessage("ab") + "z" + plainMessage("cd")
	want := []api.Piece{body("ab"), bad, body("cd")}
	_, a, _ := cutter.Feed(api.Cut{}, s)
	_, b, _ := cutter.Feed(api.Cut{}, s)
	for i := range a[:cap(a)] {
		a[:cap(a)][i] = body("spoilt")
	}
	_, c, _ := cutter.Feed(api.Cut{}, s)
	if !slices.Equal(b, want) || !slices.Equal(c, want) {
		t.Errorf("answers turned: %q, %q", b, c)
	}
}

// 12.3, 12.4, 12.5

// stream is messages, bytes of none, and messages that are too long or empty, by chance; it may end amid one.
func stream(r *rand.Rand, parts int) string {
	var b strings.Builder
	for range r.Intn(parts + 1) {
		switch r.Intn(6) {
		case 0:
			b.WriteString(noise(r, 1+r.Intn(9)))
		case 1:
			b.WriteString(plainMessage(noise(r, 65+r.Intn(300))))
		case 2:
			b.WriteString("\xf5\x00\x00")
		case 3:
			b.WriteString(strings.ReplaceAll(noise(r, 1+r.Intn(5)), "\xf5", "\xf4"))
		default:
			b.WriteString(plainMessage(noise(r, 1+r.Intn(64))))
		}
	}
	s := b.String()
	if r.Intn(3) == 0 {
		return s[:r.Intn(len(s)+1)]
	}
	return s
}

// noise is so many bytes, some of them Magic.
func noise(r *rand.Rand, many int) string {
	b := make([]byte, many)
	for i := range b {
		b[i] = byte(r.Intn(256))
		if r.Intn(8) == 0 {
			b[i] = 0xf5
		}
	}
	return string(b)
}

// inChunks feeds a stream to a cutter, cut at each place where more says so.
func inChunks(t *testing.T, c api.Cut, s string, more func() int) (api.Cut, []api.Piece) {
	t.Helper()
	var all []api.Piece
	for s != "" {
		many := min(more(), len(s))
		d, l, why := cutter.Feed(c, s[:many])
		if why != api.OK || cutter.Check(d) != api.OK {
			t.Fatalf("Feed(%#v, %x): %#v, error %d", c, s[:many], d, why)
		}
		c, s, all = d, s[many:], append(all, l...)
	}
	return c, all
}

func TestHoweverItIsCut(t *testing.T) {
	r := rand.New(rand.NewSource(12))
	all := cutters()
	for range 3000 {
		c, s := all[r.Intn(len(all))], stream(r, 8)
		feedsAsPlain(t, c, s)
		whole, pieces, _ := cutter.Feed(c, s)
		for _, more := range []func() int{
			func() int { return 1 },
			func() int { return 2 },
			func() int { return r.Intn(4) },
			func() int { return r.Intn(100) },
		} {
			if d, l := inChunks(t, c, s, more); d != whole || !slices.Equal(l, pieces) {
				t.Fatalf("%x at %#v, in chunks: %#v, %q, not %#v, %q", s, c, d, l, whole, pieces)
			}
		}
	}
}

func TestCutAtEachPlace(t *testing.T) {
	s := "ab" + plainMessage("cd") + "\xf5\x00\x00" + plainMessage(strings.Repeat("\xf5", 64)) + plainMessage(strings.Repeat("e", 65)) + "f" + plainMessage("g") + "\xf5\x00\x03h"
	whole, pieces := plainCut(s)
	for a := range len(s) + 1 {
		for b := a; b <= len(s); b++ {
			at := 0
			steps := []int{a, b - a, len(s) - b}
			d, l := inChunks(t, api.Cut{}, s, func() int { at++; return steps[at-1] })
			if d != whole || !slices.Equal(l, pieces) {
				t.Fatalf("cut at %d and %d: %#v, %q", a, b, d, l)
			}
		}
	}
}

func TestMessagesMakeTheirBodies(t *testing.T) {
	r := rand.New(rand.NewSource(125))
	for range 500 {
		var want []api.Piece
		var b strings.Builder
		for range r.Intn(20) {
			s := noise(r, 1+r.Intn(64))
			m, why := cutter.Wrap(s)
			if why != api.OK {
				t.Fatalf("Wrap of %d bytes: error %d", len(s), why)
			}
			b.WriteString(m)
			want = append(want, body(s))
		}
		ahead, _, _ := cutter.Feed(api.Cut{}, stream(r, 6))
		for _, c := range []api.Cut{{}, {Bad: true}, ahead} {
			if c.Rest != "" || c.Skip > 0 {
				continue
			}
			d, l, why := cutter.Feed(c, b.String())
			if !slices.Equal(l, want) || why != api.OK || d.Rest != "" || d.Skip != 0 {
				t.Fatalf("%d messages at %#v: %d pieces, %#v, error %d", len(want), c, len(l), d, why)
			}
		}
	}
}

func FuzzAnyBytes(f *testing.F) {
	f.Add("", false, 0, "\x00\x00\xf5\x00\x00", "\xf5\x00\x01\x07")
	f.Add("\xf5\x00\x02a", false, 0, "b", "\xf5")
	f.Add("", false, 300, "\xf5", "")
	f.Add("a", true, -1, "b", "c")
	f.Fuzz(func(t *testing.T, rest string, isBad bool, skip int, one, two string) {
		c := api.Cut{Rest: rest, Bad: isBad, Skip: skip}
		if cutter.Check(c) != api.OK {
			if d, l, why := cutter.Feed(c, one); d != (api.Cut{}) || len(l) != 0 || why != api.ErrForm {
				t.Fatalf("Feed(%#v): %#v, %q, error %d", c, d, l, why)
			}
			return
		}
		feedsAsPlain(t, c, one+two)
		d, l, _ := cutter.Feed(c, one)
		e, m, _ := cutter.Feed(d, two)
		whole, all, _ := cutter.Feed(c, one+two)
		if e != whole || !slices.Equal(append(l, m...), all) {
			t.Fatalf("Feed(%#v, %x, %x): %#v, %q, %q; in one %#v, %q", c, one, two, e, l, m, whole, all)
		}
	})
}

// P1, P3, P4

// A long stream takes no longer than its length asks for.
func TestALongStream(t *testing.T) {
	s := strings.Repeat(plainMessage(strings.Repeat("a", 64)), 1<<14)
	if d, l, why := cutter.Feed(api.Cut{}, s); d != (api.Cut{}) || len(l) != 1<<14 || why != api.OK {
		t.Errorf("Feed: %#v, %d pieces, error %d", d, len(l), why)
	}
	s = strings.Repeat("a", 1<<22)
	if d, l, why := cutter.Feed(api.Cut{}, s); d != (api.Cut{Bad: true}) || len(l) != 1 || why != api.OK {
		t.Errorf("Feed: %#v, %d pieces, error %d", d, len(l), why)
	}
}

func TestAnswersHangOnArgumentsAlone(t *testing.T) {
	r := rand.New(rand.NewSource(120))
	s := stream(r, 60)
	first, pieces, _ := cutter.Feed(api.Cut{}, s)
	for range 3 {
		cutter.Feed(api.Cut{Bad: true}, "a\xf5\x00\x02b")
		if d, l, why := cutter.Feed(api.Cut{}, strings.Clone(s)); d != first || !slices.Equal(l, pieces) || why != api.OK {
			t.Fatalf("Feed turned: %#v, %d pieces, error %d", d, len(l), why)
		}
	}
}

func TestNoGoroutineIsLeft(t *testing.T) {
	before := runtime.NumGoroutine()
	for _, c := range append(cutters(), wrongs()...) {
		cutter.Check(c)
		cutter.Feed(c, "ab\xf5\x00\x01a\xf5")
		cutter.Wrap(c.Rest)
	}
	if after := runtime.NumGoroutine(); after > before {
		t.Errorf("%d goroutines, and %d ahead of the calls", after, before)
	}
}
