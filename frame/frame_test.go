package frame_test

import (
	"hash/crc32"
	"math"
	"math/rand"
	"runtime"
	"slices"
	"strings"
	"testing"
	"unsafe"

	"spoor/api"
	"spoor/frame"
)

// The calls have the signatures of doc/04-frame.md.
var (
	_ func(string) (string, api.Errno)                = frame.Put
	_ func(int) (int, api.Errno)                      = frame.Size
	_ func(string) (string, string, api.Errno)        = frame.Next
	_ func(string) ([]string, int)                    = frame.All
	_ func(string, int) ([]string, string, api.Errno) = frame.Take
)

// plainNum is a number's bytes, seven bits each, the lowest ones first.
func plainNum(n uint64) string {
	var b []byte
	for ; n >= 128; n /= 128 {
		b = append(b, byte(n%128+128))
	}
	return string(append(b, byte(n)))
}

// plainSum is a payload's sum's bytes, by Go's library.
func plainSum(s string) string {
	n := crc32.Checksum([]byte(s), crc32.MakeTable(crc32.Castagnoli))
	return string([]byte{byte(n >> 24), byte(n >> 16), byte(n >> 8), byte(n)})
}

// plainFrame is a payload's frame, as long as it may be.
func plainFrame(s string) string {
	return plainNum(uint64(len(s))) + plainSum(s) + s
}

func framesOf(l []string) string {
	var b strings.Builder
	for _, s := range l {
		b.WriteString(plainFrame(s))
	}
	return b.String()
}

func noise(r *rand.Rand, most int) string {
	b := make([]byte, r.Intn(most+1))
	r.Read(b)
	return string(b)
}

// payloads are of all lengths at which something turns.
func payloads() []string {
	r := rand.New(rand.NewSource(4))
	l := []string{"", "a", "z", "\x00", "\xff", "123456789", plainFrame("a"), plainFrame("")}
	for _, many := range []int{2, 3, 4, 5, 9, 10, 11, 126, 127, 128, 129, 255, 256, 1000, api.MaxFrame - 1, api.MaxFrame} {
		b := make([]byte, many)
		r.Read(b)
		l = append(l, string(b), strings.Repeat("\x00", many))
	}
	return l
}

// behinds are what may stand behind frames, none of which begins with one.
func behinds() []string {
	return []string{"", "z", "\x00", "\x00\x00\x00\x00", "\x80", "\xff\xff", plainFrame("abc")[:7], "\x01\xc1\xd0\x43\x31a", strings.Repeat("\xff", 300)}
}

// 4.1

func TestPutIsTheFrame(t *testing.T) {
	if s, why := frame.Put("a"); s != "\x01\xc1\xd0\x43\x30a" || why != api.OK {
		t.Errorf("Put(a): %x, error %d", s, why)
	}
	if s, why := frame.Put(""); s != "\x00\x00\x00\x00\x00" || why != api.OK {
		t.Errorf("Put of nothing: %x, error %d", s, why)
	}
	for _, p := range payloads() {
		if s, why := frame.Put(p); s != plainFrame(p) || why != api.OK {
			t.Errorf("Put of %d bytes: %d bytes, error %d", len(p), len(s), why)
		}
	}
}

func TestPutRefusesMoreThanMaxFrame(t *testing.T) {
	for _, many := range []int{api.MaxFrame + 1, api.MaxFrame + 2, 10 * api.MaxFrame} {
		if s, why := frame.Put(strings.Repeat("a", many)); s != "" || why != api.ErrLong {
			t.Errorf("Put of %d: %d bytes, error %d", many, len(s), why)
		}
	}
}

func TestSizeIsTheFramesLength(t *testing.T) {
	for n := range api.MaxFrame + 1 {
		want := n + 5
		if n >= 128 {
			want++
		}
		if got, why := frame.Size(n); got != want || why != api.OK {
			t.Fatalf("Size(%d): %d, error %d, not %d", n, got, why, want)
		}
	}
	for _, p := range payloads() {
		s, _ := frame.Put(p)
		if got, why := frame.Size(len(p)); got != len(s) || why != api.OK {
			t.Errorf("Size(%d): %d, error %d, and its frame has %d", len(p), got, why, len(s))
		}
	}
}

func TestSizeRefusesWhatIsOutside(t *testing.T) {
	for _, n := range []int{-1, -2, math.MinInt, api.MaxFrame + 1, api.MaxFrame + 2, 1 << 40, math.MaxInt} {
		if got, why := frame.Size(n); got != 0 || why != api.ErrRange {
			t.Errorf("Size(%d): %d, error %d", n, got, why)
		}
	}
}

// 4.2

func TestNextAnswersThePayloadAndWhatIsBehind(t *testing.T) {
	for _, p := range payloads() {
		for _, rest := range append(behinds(), plainFrame("a"), plainFrame("")) {
			got, behind, why := frame.Next(plainFrame(p) + rest)
			if got != p || behind != rest || why != api.OK {
				t.Fatalf("Next of %d bytes: %d bytes, %x behind, error %d", len(p), len(got), behind, why)
			}
		}
	}
}

// refused is bytes that begin no frame, and why.
var refused = []struct {
	s   string
	why api.Errno
}{
	{"", api.ErrShort},
	{"\x80", api.ErrShort},
	{"\xff\xff", api.ErrShort},
	{"\x80\x80\x80\x80\x80\x80\x80\x80\x80", api.ErrShort},
	{"\x80\x00", api.ErrCode},
	{"\x81\x00\xc1\xd0\x43\x30a", api.ErrCode},
	{"\x80\x80\x00", api.ErrCode},
	{"\xff\xff\xff\xff\xff\xff\xff\xff\xff\x02", api.ErrCode},
	{"\x80\x80\x80\x80\x80\x80\x80\x80\x80\x80", api.ErrCode},
	{"\x80\x80\x80\x80\x80\x80\x80\x80\x80\x80\x01", api.ErrCode},
	{"\xff\xff\xff\xff\xff\xff\xff\xff\xff\x01", api.ErrCode},
	{"\x81\x20", api.ErrCode},
	{"\x81\x20\x00\x00\x00\x00", api.ErrCode},
	{"\x00", api.ErrShort},
	{"\x00\x00\x00\x00", api.ErrShort},
	{"\x00\xff\xff\xff", api.ErrShort},
	{"\x80\x20", api.ErrShort},
	{"\x01\xc1\xd0\x43\x30", api.ErrShort},
	{"\x01\xff\xff\xff\xff", api.ErrShort},
	{"\x02\xc1\xd0\x43\x30a", api.ErrShort},
	{"\x00\x00\x00\x00\x01", api.ErrSum},
	{"\x00\x01\x00\x00\x00", api.ErrSum},
	{"\x01\xc1\xd0\x43\x31a", api.ErrSum},
	{"\x01\x30\x43\xd0\xc1a", api.ErrSum},
	{"\x01\xc1\xd0\x43\x30b", api.ErrSum},
	{"\x00\xc1\xd0\x43\x30a", api.ErrSum},
}

func TestNextRefuses(t *testing.T) {
	long := strings.Repeat("a", api.MaxFrame+1)
	if p, rest, why := frame.Next(plainFrame(long)); p != "" || rest != "" || why != api.ErrCode {
		t.Errorf("Next of a frame too long: %d bytes, %d behind, error %d", len(p), len(rest), why)
	}
	for _, c := range refused {
		if p, rest, why := frame.Next(c.s); p != "" || rest != "" || why != c.why {
			t.Errorf("Next(%x): %x, %x behind, error %d, not %d", c.s, p, rest, why, c.why)
		}
	}
}

// A number that is cut off is short, and one that is none is none, however much is behind it.
func TestNextSeesNoFurtherThanItsNumber(t *testing.T) {
	for _, c := range refused {
		if c.why != api.ErrCode && c.why != api.ErrSum {
			continue
		}
		if p, rest, why := frame.Next(c.s + strings.Repeat("\x80", 5000)); p != "" || rest != "" || why != c.why {
			t.Errorf("Next(%x..): %x, %d behind, error %d, not %d", c.s, p, len(rest), why, c.why)
		}
	}
}

func TestAllReadsUpToTheFirstError(t *testing.T) {
	lists := [][]string{nil, {""}, {"a"}, {"", "", ""}, {"a", "bc", "", strings.Repeat("d", 200)}, payloads()}
	for _, l := range lists {
		frames := framesOf(l)
		for _, c := range refused {
			if got, used := frame.All(frames + c.s); !slices.Equal(got, l) || used != len(frames) {
				t.Errorf("All of %d, and %x: %d, %d bytes", len(l), c.s, len(got), used)
			}
		}
		if len(l) > 0 {
			turned := "\x01\xc1\xd0\x43\x31a" + frames
			if got, used := frame.All(turned); len(got) != 0 || used != 0 {
				t.Errorf("All behind one that is refused: %d, %d bytes", len(got), used)
			}
		}
	}
}

func TestTakeTakesSoMany(t *testing.T) {
	l := []string{"a", "", strings.Repeat("b", 200), "c"}
	for _, behind := range behinds() {
		s := framesOf(l) + behind
		for many := range len(l) + 1 {
			got, rest, why := frame.Take(s, many)
			if !slices.Equal(got, l[:many]) || rest != framesOf(l[many:])+behind || why != api.OK {
				t.Errorf("Take %d: %d, %d bytes behind, error %d", many, len(got), len(rest), why)
			}
		}
	}
	for _, c := range refused {
		if got, rest, why := frame.Take(c.s, 0); len(got) != 0 || rest != c.s || why != api.OK {
			t.Errorf("Take none of %x: %d, %x behind, error %d", c.s, len(got), rest, why)
		}
	}
}

func TestTakeRefuses(t *testing.T) {
	l := []string{"a", "", "bcd"}
	for _, many := range []int{-1, -2, math.MinInt} {
		for _, s := range []string{"", framesOf(l), "\x80\x00"} {
			if got, rest, why := frame.Take(s, many); len(got) != 0 || rest != "" || why != api.ErrRange {
				t.Errorf("Take %d: %d, %x behind, error %d", many, len(got), rest, why)
			}
		}
	}
	for _, c := range refused {
		for ahead := range len(l) + 1 {
			for _, many := range []int{ahead + 1, ahead + 2, math.MaxInt} {
				got, rest, why := frame.Take(framesOf(l[:ahead])+c.s, many)
				if len(got) != 0 || rest != "" || why != c.why {
					t.Errorf("Take %d of %d and %x: %d, %x behind, error %d, not %d", many, ahead, c.s, len(got), rest, why, c.why)
				}
			}
		}
	}
}

// 4.3

// share tells whether two texts lie in the same memory, in part at least. (Of single bytes Go itself keeps one copy each.)
func share(a, b string) bool {
	if len(a) < 2 || len(b) < 2 {
		return false
	}
	fromA, fromB := uintptr(unsafe.Pointer(unsafe.StringData(a))), uintptr(unsafe.Pointer(unsafe.StringData(b)))
	return fromA < fromB+uintptr(len(b)) && fromB < fromA+uintptr(len(a))
}

func TestTextsAreNewMemory(t *testing.T) {
	plain := strings.Repeat("some bytes", 10)
	empty := ""
	s := framesOf([]string{plain, "other bytes"}) + "behind"
	tell := func() []string {
		a, _ := frame.Put(plain)
		b, _ := frame.Put(empty)
		c, d, _ := frame.Next(s)
		e, _ := frame.All(s)
		f, g, _ := frame.Take(s, 2)
		_, h, _ := frame.Take(s, 0)
		return slices.Concat([]string{a, b, c, d, g, h}, e, f)
	}
	all := slices.Concat(tell(), tell(), []string{plain, s})
	for i, a := range all {
		for k, b := range all[:i] {
			if share(a, b) {
				t.Errorf("texts %d and %d share memory", k, i)
			}
		}
	}
}

func TestLaterCallsLeaveAnswersAlone(t *testing.T) {
	l := []string{"ab", "cd", "ef"}
	a, _ := frame.All(framesOf(l))
	b, _, _ := frame.Take(framesOf(l), 2)
	c, _ := frame.All(framesOf(l))
	for i := range a[:cap(a)] {
		a[:cap(a)][i] = "spoilt"
	}
	frame.Take(framesOf([]string{"gh", "ij"}), 2)
	if !slices.Equal(b, l[:2]) || !slices.Equal(c, l) {
		t.Errorf("answers turned: %q, %q", b, c)
	}
}

// 4.4, 4.5, 4.6

func TestThereAndBack(t *testing.T) {
	r := rand.New(rand.NewSource(44))
	for range 300 {
		var l []string
		var s strings.Builder
		for range r.Intn(8) {
			p := noise(r, []int{3, 130, 4096}[r.Intn(3)])
			f, why := frame.Put(p)
			if why != api.OK {
				t.Fatalf("Put of %d bytes: error %d", len(p), why)
			}
			l = append(l, p)
			s.WriteString(f)
		}
		behind := noise(r, 300)
		got, rest, why := frame.Take(s.String()+behind, len(l))
		if !slices.Equal(got, l) || rest != behind || why != api.OK {
			t.Fatalf("Take of %d: %d, error %d", len(l), len(got), why)
		}
		all, used := frame.All(s.String() + behind)
		if len(all) < len(l) || !slices.Equal(all[:len(l)], l) || used < s.Len() || framesOf(all) != (s.String() + behind)[:used] {
			t.Fatalf("All of %d: %d, %d bytes", len(l), len(all), used)
		}
	}
}

func TestCutAnywhere(t *testing.T) {
	l := []string{"a", "", "bcd", strings.Repeat("e", 127), strings.Repeat("f", 128), "", "g"}
	s := framesOf(l)
	for cut := range len(s) + 1 {
		whole, end := 0, 0
		for whole < len(l) && end+len(plainFrame(l[whole])) <= cut {
			end += len(plainFrame(l[whole]))
			whole++
		}
		got, used := frame.All(s[:cut])
		if !slices.Equal(got, l[:whole]) || used != end {
			t.Fatalf("cut at %d: %d, %d bytes; not %d, %d bytes", cut, len(got), used, whole, end)
		}
		if got, rest, why := frame.Take(s[:cut], whole); !slices.Equal(got, l[:whole]) || rest != s[end:cut] || why != api.OK {
			t.Fatalf("cut at %d: Take %d: %d, error %d", cut, whole, len(got), why)
		}
		if got, rest, why := frame.Take(s[:cut], whole+1); len(got) != 0 || rest != "" || why != api.ErrShort {
			t.Fatalf("cut at %d: Take %d: %d, error %d", cut, whole+1, len(got), why)
		}
	}
}

func TestATurnedByteIsNotRead(t *testing.T) {
	for _, p := range []string{"", "a", "bcd", strings.Repeat("\x00", 40), strings.Repeat("e", 130)} {
		s := plainFrame(p)
		for at := len(plainNum(uint64(len(p)))); at < len(s); at++ {
			for turn := 1; turn < 256; turn++ {
				b := []byte(s)
				b[at] ^= byte(turn)
				if got, rest, why := frame.Next(string(b) + s); got != "" || rest != "" || why != api.ErrSum {
					t.Fatalf("%d bytes, byte %d turned by %02x: %x, error %d", len(p), at, turn, got, why)
				}
				if l, used := frame.All(s + string(b) + s); len(l) != 1 || used != len(s) {
					t.Fatalf("%d bytes, byte %d turned by %02x: All reads %d, %d bytes", len(p), at, turn, len(l), used)
				}
			}
		}
	}
}

// P1, P3, P4

func FuzzAnyBytes(f *testing.F) {
	f.Add(framesOf([]string{"a", "", "bcd"}), 2)
	f.Add("\x80\x00", -1)
	f.Add("\x00\x00\x00\x00\x00\x00", 3)
	f.Fuzz(func(t *testing.T, s string, many int) {
		l, used := frame.All(s)
		if used < 0 || used > len(s) || framesOf(l) != s[:used] {
			t.Fatalf("All: %d, %d bytes of %d", len(l), used, len(s))
		}
		p, rest, why := frame.Next(s)
		if (why == api.OK) != (len(l) > 0) || why == api.OK && (p != l[0] || plainFrame(p)+rest != s) {
			t.Fatalf("Next: %x, error %d", p, why)
		}
		got, left, why := frame.Take(s, many)
		if (why == api.OK) != (many >= 0 && many <= len(l)) || why == api.OK && (len(got) != many || framesOf(got)+left != s) {
			t.Fatalf("Take %d: %d, error %d", many, len(got), why)
		}
		if w, why := frame.Put(s); why == api.OK && w != plainFrame(s) {
			t.Fatalf("Put: %x", w)
		}
	})
}

// Frames are not copied for each that is read: a long row of them takes no longer than its length asks for.
func TestALongRow(t *testing.T) {
	s := strings.Repeat(plainFrame(""), 1<<19)
	if l, used := frame.All(s); len(l) != 1<<19 || used != len(s) {
		t.Errorf("All: %d, %d bytes", len(l), used)
	}
	if l, rest, why := frame.Take(s, 1<<19); len(l) != 1<<19 || rest != "" || why != api.OK {
		t.Errorf("Take: %d, %d bytes behind, error %d", len(l), len(rest), why)
	}
}

func TestAnswersHangOnArgumentsAlone(t *testing.T) {
	s := framesOf(payloads()) + "behind"
	for range 3 {
		l, used := frame.All(strings.Clone(s))
		if !slices.Equal(l, payloads()) || used != len(s)-6 {
			t.Fatalf("All turned: %d, %d bytes", len(l), used)
		}
	}
}

func TestNoGoroutineIsLeft(t *testing.T) {
	before := runtime.NumGoroutine()
	s := framesOf(payloads())
	frame.All(s)
	frame.Take(s, 2)
	frame.Take(s, math.MaxInt)
	frame.Next(s)
	if after := runtime.NumGoroutine(); after > before {
		t.Errorf("%d goroutines, and %d ahead of the calls", after, before)
	}
}
