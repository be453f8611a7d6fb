package num_test

import (
	"encoding/binary"
	"math"
	"math/rand"
	"runtime"
	"slices"
	"strings"
	"testing"
	"unsafe"

	"spoor/api"
	"spoor/num"
)

// The calls have the signatures of doc/01-num.md.
var (
	_ func(uint64) string                        = num.Put
	_ func(string) (uint64, string, api.Errno)   = num.Get
	_ func(...uint64) (string, api.Errno)        = num.Row
	_ func(string) ([]uint64, string, api.Errno) = num.GetRow
	_ func(string) (string, api.Errno)           = num.Text
	_ func(string) (string, string, api.Errno)   = num.GetText
	_ func(int64) uint64                         = num.Zig
	_ func(uint64) int64                         = num.Zag
)

// rests are what may stand behind the bytes of something.
func rests() []string {
	return []string{"", "z", "\x00", "\x80", "\x80\x00", strings.Repeat("\xff", 20), strings.Repeat("ab", 5000)}
}

// edges are the numbers at which the count of bytes turns, and their neighbours.
func edges() []uint64 {
	l := []uint64{0, 1, 2, 127, 128, 300, math.MaxUint64, math.MaxUint64 - 1, api.MaxRow, api.MaxRow + 1, api.MaxText, api.MaxText + 1}
	for k := range 64 {
		n := uint64(1) << k
		l = append(l, n-1, n, n+1)
	}
	return l
}

// plainBytes is the document's word for a number's bytes, by another way than the package's.
func plainBytes(n uint64) string {
	return string(binary.AppendUvarint(nil, n))
}

// 1.1

func TestPutAnswersTheBytesOfANumber(t *testing.T) {
	for n, want := range map[uint64]string{
		0:              "\x00",
		1:              "\x01",
		127:            "\x7f",
		128:            "\x80\x01",
		300:            "\xac\x02",
		16383:          "\xff\x7f",
		16384:          "\x80\x80\x01",
		1 << 63:        strings.Repeat("\x80", 9) + "\x01",
		math.MaxUint64: strings.Repeat("\xff", 9) + "\x01",
	} {
		if got := num.Put(n); got != want {
			t.Errorf("Put(%d): %x, not %x", n, got, want)
		}
	}
	for _, n := range edges() {
		if got := num.Put(n); got != plainBytes(n) {
			t.Errorf("Put(%d): %x, not %x", n, got, plainBytes(n))
		}
	}
}

func TestGetAnswersTheNumberAndWhatIsBehind(t *testing.T) {
	for _, n := range edges() {
		for _, rest := range rests() {
			got, behind, why := num.Get(plainBytes(n) + rest)
			if got != n || behind != rest || why != api.OK {
				t.Fatalf("Get of %d's bytes and %d behind: %d, %d bytes, %d", n, len(rest), got, len(behind), why)
			}
		}
	}
}

func TestGetRefuses(t *testing.T) {
	for _, c := range []struct {
		s   string
		why api.Errno
	}{
		{"", api.ErrShort},
		{"\x80", api.ErrShort},
		{"\xff\xff", api.ErrShort},
		{strings.Repeat("\x80", 8), api.ErrShort},
		{strings.Repeat("\x80", 9), api.ErrShort},
		{strings.Repeat("\xff", 9), api.ErrShort},
		{strings.Repeat("\x80", 9) + "\x00", api.ErrCode},
		{strings.Repeat("\x80", 9) + "\x02", api.ErrCode},
		{strings.Repeat("\xff", 9) + "\x02", api.ErrCode},
		{strings.Repeat("\xff", 9) + "\x7f", api.ErrCode},
		{strings.Repeat("\xff", 9) + "\x80", api.ErrCode},
		{strings.Repeat("\xff", 9) + "\x81", api.ErrCode},
		{strings.Repeat("\xff", 10), api.ErrCode},
		{strings.Repeat("\x80", 10) + "\x01", api.ErrCode},
		{strings.Repeat("\x80", 4000), api.ErrCode},
		{"\x80\x00", api.ErrCode},
		{"\xff\x00", api.ErrCode},
		{"\xff\x00z", api.ErrCode},
		{"\x80\x80\x00", api.ErrCode},
		{strings.Repeat("\xff", 8) + "\x00", api.ErrCode},
	} {
		if n, rest, why := num.Get(c.s); n != 0 || rest != "" || why != c.why {
			t.Errorf("Get(%x): %d, %x, %d, not error %d alone", c.s, n, rest, why, c.why)
		}
	}
}

// plainGet reads a number as the document's words tell it, one after the other.
func plainGet(s string) (uint64, string, api.Errno) {
	var n uint64
	for i := 0; ; i++ {
		switch {
		case i >= len(s):
			return 0, "", api.ErrShort
		case i == 9 && s[i] > 1:
			return 0, "", api.ErrCode
		case s[i] < 128 && s[i] == 0 && i > 0:
			return 0, "", api.ErrCode
		}
		n += uint64(s[i]%128) << (7 * i)
		if s[i] < 128 {
			return n, s[i+1:], api.OK
		}
	}
}

func sameAsPlainGet(t *testing.T, s string) {
	t.Helper()
	n, rest, why := num.Get(s)
	wantN, wantRest, wantWhy := plainGet(s)
	if n != wantN || rest != wantRest || why != wantWhy {
		t.Fatalf("Get(%x): %d, %x, %d, not %d, %x, %d", s, n, rest, why, wantN, wantRest, wantWhy)
	}
	if why == api.OK && num.Put(n)+rest != s {
		t.Fatalf("Get(%x) read %d, which has other bytes", s, n)
	}
}

func TestGetOfAllShortTexts(t *testing.T) {
	sameAsPlainGet(t, "")
	for a := range 256 {
		sameAsPlainGet(t, string([]byte{byte(a)}))
		for b := range 256 {
			sameAsPlainGet(t, string([]byte{byte(a), byte(b)}))
		}
	}
	nine := strings.Repeat("\x80", 9)
	for a := range 256 {
		sameAsPlainGet(t, nine+string([]byte{byte(a)}))
		sameAsPlainGet(t, nine+string([]byte{byte(a), 1}))
	}
}

// noise answers a text of up to most bytes, many of which go on or are 0, so that errors come deep in it.
func noise(r *rand.Rand, most int) string {
	b := make([]byte, r.Intn(most+1))
	for i := range b {
		switch r.Intn(4) {
		case 0:
			b[i] = byte(r.Intn(4))
		case 1:
			b[i] = byte(r.Intn(256))
		default:
			b[i] = 0x80 | byte(r.Intn(128))
		}
	}
	return string(b)
}

func TestGetOfNoise(t *testing.T) {
	r := rand.New(rand.NewSource(1))
	for range 20000 {
		sameAsPlainGet(t, noise(r, 14))
	}
}

// 1.2

func plainRow(l []uint64) string {
	s := plainBytes(uint64(len(l)))
	for _, n := range l {
		s += plainBytes(n)
	}
	return s
}

func numbers(many int) []uint64 {
	l := make([]uint64, many)
	for i := range l {
		l[i] = uint64(i) * uint64(i) * 0x9e3779b97f4a7c15
	}
	return l
}

func TestRowAnswersTheBytesOfARow(t *testing.T) {
	for _, l := range [][]uint64{{}, {0}, {1, 200}, {math.MaxUint64}, {0, 0, 0}, numbers(127), numbers(128), edges(), numbers(api.MaxRow)} {
		s, why := num.Row(l...)
		if s != plainRow(l) || why != api.OK {
			t.Fatalf("Row of %d numbers: %d bytes, error %d", len(l), len(s), why)
		}
		for _, rest := range rests() {
			got, behind, why := num.GetRow(s + rest)
			if !slices.Equal(got, l) || behind != rest || why != api.OK {
				t.Fatalf("GetRow of %d numbers: %d of them, %d bytes, error %d", len(l), len(got), len(behind), why)
			}
		}
	}
	if s, why := num.Row(1, 200); s != "\x02\x01\xc8\x01" || why != api.OK {
		t.Errorf("Row(1, 200): %x, %d", s, why)
	}
}

func TestRowRefusesMoreThanMaxRow(t *testing.T) {
	for _, many := range []int{api.MaxRow + 1, api.MaxRow + 2, 3 * api.MaxRow} {
		if s, why := num.Row(numbers(many)...); s != "" || why != api.ErrLong {
			t.Errorf("Row of %d: %d bytes, error %d", many, len(s), why)
		}
	}
}

func TestGetRowRefuses(t *testing.T) {
	for _, c := range []struct {
		name, s string
		why     api.Errno
	}{
		{"nothing", "", api.ErrShort},
		{"a count that is cut", "\x80", api.ErrShort},
		{"a count that is no code", "\x80\x00", api.ErrCode},
		{"a count whose tenth byte is 2", strings.Repeat("\xff", 9) + "\x02", api.ErrCode},
		{"one more than MaxRow, and all of them", plainRow(numbers(api.MaxRow + 1)), api.ErrCode},
		{"one more than MaxRow, and none of them", plainBytes(api.MaxRow + 1), api.ErrCode},
		{"2^32", plainBytes(1<<32) + "\x01", api.ErrCode},
		{"2^63", plainBytes(1<<63) + "\x01", api.ErrCode},
		{"2^64 - 1", plainBytes(math.MaxUint64) + "\x01", api.ErrCode},
		{"MaxRow, and none of them", plainBytes(api.MaxRow), api.ErrShort},
		{"the last one is not there", "\x02\x01", api.ErrShort},
		{"the last one is cut", "\x02\x01\x80", api.ErrShort},
		{"the first one is no code", "\x02\x80\x00", api.ErrCode},
		{"the last one is no code", "\x02\x01\x80\x00z", api.ErrCode},
		{"one is no code, the next one is not there", "\x03\x80\x00\x01", api.ErrCode},
		{"a tenth byte is 2", "\x01" + strings.Repeat("\xff", 9) + "\x02", api.ErrCode},
	} {
		if l, rest, why := num.GetRow(c.s); len(l) != 0 || rest != "" || why != c.why {
			t.Errorf("GetRow of %s: %d numbers, %d bytes, error %d, not error %d alone", c.name, len(l), len(rest), why, c.why)
		}
	}
}

func TestTextAnswersTheBytesOfAText(t *testing.T) {
	all := make([]byte, 256)
	for i := range all {
		all[i] = byte(i)
	}
	for _, x := range []string{"", "a", "ab", "\x00", "\xff\xfe", string(all[:127]), string(all[:128]), string(all), strings.Repeat("z", api.MaxText-1), strings.Repeat("z", api.MaxText)} {
		s, why := num.Text(x)
		if s != plainBytes(uint64(len(x)))+x || why != api.OK {
			t.Fatalf("Text of %d bytes: %d bytes, error %d", len(x), len(s), why)
		}
		for _, rest := range rests() {
			got, behind, why := num.GetText(s + rest)
			if got != x || behind != rest || why != api.OK {
				t.Fatalf("GetText of %d bytes: %d of them, %d behind, error %d", len(x), len(got), len(behind), why)
			}
		}
	}
}

func TestTextRefusesMoreThanMaxText(t *testing.T) {
	for _, many := range []int{api.MaxText + 1, api.MaxText + 2, 3 * api.MaxText} {
		if s, why := num.Text(strings.Repeat("a", many)); s != "" || why != api.ErrLong {
			t.Errorf("Text of %d: %d bytes, error %d", many, len(s), why)
		}
	}
}

func TestGetTextRefuses(t *testing.T) {
	for _, c := range []struct {
		name, s string
		why     api.Errno
	}{
		{"nothing", "", api.ErrShort},
		{"a count that is cut", "\xff\xff", api.ErrShort},
		{"a count that is no code", "\x85\x00abcde", api.ErrCode},
		{"a count whose tenth byte is 2", strings.Repeat("\xff", 9) + "\x02", api.ErrCode},
		{"one more than MaxText, and all of them", plainBytes(api.MaxText+1) + strings.Repeat("a", api.MaxText+1), api.ErrCode},
		{"one more than MaxText, and none of them", plainBytes(api.MaxText + 1), api.ErrCode},
		{"2^32", plainBytes(1<<32) + "a", api.ErrCode},
		{"2^63", plainBytes(1<<63) + "a", api.ErrCode},
		{"2^64 - 1", plainBytes(math.MaxUint64) + "a", api.ErrCode},
		{"MaxText, and none of them", plainBytes(api.MaxText), api.ErrShort},
		{"MaxText, and all but one", plainBytes(api.MaxText) + strings.Repeat("a", api.MaxText-1), api.ErrShort},
		{"one byte that is not there", "\x01", api.ErrShort},
		{"too few", "\x05ab", api.ErrShort},
		{"all but one", "\x05abcd", api.ErrShort},
	} {
		if x, rest, why := num.GetText(c.s); x != "" || rest != "" || why != c.why {
			t.Errorf("GetText of %s: %d bytes, %d behind, error %d, not error %d alone", c.name, len(x), len(rest), why, c.why)
		}
	}
}

// 1.3

// signed are numbers with a sign, their edges among them.
func signed() []int64 {
	l := []int64{math.MinInt64, math.MinInt64 + 1, math.MaxInt64, math.MaxInt64 - 1, 1 << 62, -(1 << 62), -(1 << 62) - 1}
	for n := int64(-1000); n <= 1000; n++ {
		l = append(l, n, n<<32, n<<52)
	}
	return l
}

func plainZig(n int64) uint64 {
	if n >= 0 {
		return 2 * uint64(n)
	}
	return 2*uint64(-(n+1)) + 1 // -2n - 1, in steps that do not run over
}

func TestZigAndZag(t *testing.T) {
	for n, want := range map[int64]uint64{0: 0, -1: 1, 1: 2, -2: 3, 2: 4, -3: 5, math.MaxInt64: math.MaxUint64 - 1, math.MinInt64: math.MaxUint64} {
		if got := num.Zig(n); got != want {
			t.Errorf("Zig(%d): %d, not %d", n, got, want)
		}
	}
	for _, n := range signed() {
		if got := num.Zig(n); got != plainZig(n) {
			t.Errorf("Zig(%d): %d, not %d", n, got, plainZig(n))
		}
		if got := num.Zag(plainZig(n)); got != n {
			t.Errorf("Zag(%d): %d, not %d", plainZig(n), got, n)
		}
	}
	for _, u := range edges() {
		if got := num.Zig(num.Zag(u)); got != u {
			t.Errorf("Zig(Zag(%d)): %d", u, got)
		}
	}
}

// 1.4

func TestAnswersAreNewMemory(t *testing.T) {
	l := numbers(40)
	kept := slices.Clone(l)
	s, _ := num.Row(l...)
	if !slices.Equal(l, kept) {
		t.Error("Row changed its numbers")
	}
	clear(l)
	if s != plainRow(kept) {
		t.Error("Row's answer turned with its numbers")
	}
	a, _, _ := num.GetRow(s)
	b, _, _ := num.GetRow(s)
	clear(a)
	_ = append(a, 7)
	c, _, _ := num.GetRow(s)
	if !slices.Equal(b, kept) || !slices.Equal(c, kept) {
		t.Error("GetRow's answers share their numbers")
	}
}

// share tells whether two texts lie in the same memory, in part at least. (Of single bytes Go itself keeps one copy each.)
func share(a, b string) bool {
	if len(a) < 2 || len(b) < 2 {
		return false
	}
	fromA, fromB := uintptr(unsafe.Pointer(unsafe.StringData(a))), uintptr(unsafe.Pointer(unsafe.StringData(b)))
	return fromA < fromB+uintptr(len(b)) && fromB < fromA+uintptr(len(a))
}

func TestTextsAreNewMemory(t *testing.T) {
	rest := strings.Repeat("behind", 20)
	number, row, text := "\xac\x02"+rest, "\x02\x01\xc8\x01"+rest, "\x05abcde"+rest
	tell := func() []string {
		_, a, _ := num.Get(number)
		_, b, _ := num.GetRow(row)
		c, d, _ := num.GetText(text)
		e, _ := num.Row(1, 200)
		f, _ := num.Text(rest)
		return []string{num.Put(300), a, b, c, d, e, f}
	}
	all := append(tell(), tell()...)
	all = append(all, number, row, text, rest)
	for i, a := range all {
		for k, b := range all[:i] {
			if share(a, b) {
				t.Errorf("texts %d and %d share memory", k, i)
			}
		}
	}
}

// Room behind a list is not the list's: a call neither writes there nor tells it.
func TestRowLooksAtItsNumbersAlone(t *testing.T) {
	whole := numbers(20)
	kept := slices.Clone(whole)
	s, why := num.Row(whole[:7]...)
	if s != plainRow(kept[:7]) || why != api.OK {
		t.Errorf("Row of 7 of 20: %d bytes, error %d", len(s), why)
	}
	if !slices.Equal(whole, kept) {
		t.Error("Row wrote behind its numbers")
	}
}

// 1.5

func TestThereAndBack(t *testing.T) {
	r := rand.New(rand.NewSource(2))
	for range 3000 {
		n := r.Uint64() >> r.Intn(64)
		l := make([]uint64, r.Intn(30))
		for i := range l {
			l[i] = r.Uint64() >> r.Intn(64)
		}
		text, rest := noise(r, 300), noise(r, 30)
		row, whyRow := num.Row(l...)
		told, whyText := num.Text(text)
		if whyRow != api.OK || whyText != api.OK {
			t.Fatalf("Row: %d, Text: %d", whyRow, whyText)
		}
		if got, behind, why := num.Get(num.Put(n) + rest); got != n || behind != rest || why != api.OK {
			t.Fatalf("%d comes back as %d, error %d", n, got, why)
		}
		if got, behind, why := num.GetRow(row + rest); !slices.Equal(got, l) || behind != rest || why != api.OK {
			t.Fatalf("%d comes back as %d, error %d", l, got, why)
		}
		if got, behind, why := num.GetText(told + rest); got != text || behind != rest || why != api.OK {
			t.Fatalf("%x comes back as %x, error %d", text, got, why)
		}
	}
}

// hasItsBytes holds what is read of s against the bytes that it was read from.
func hasItsBytes(t *testing.T, s string) {
	t.Helper()
	n, rest, why := num.Get(s)
	if why != api.OK && (n != 0 || rest != "") || why == api.OK && num.Put(n)+rest != s {
		t.Fatalf("Get(%x): %d, %x, %d", s, n, rest, why)
	}
	l, rest, why := num.GetRow(s)
	row, _ := num.Row(l...)
	if why != api.OK && (len(l) != 0 || rest != "") || why == api.OK && row+rest != s {
		t.Fatalf("GetRow(%x): %d, %x, %d", s, l, rest, why)
	}
	x, rest, why := num.GetText(s)
	text, _ := num.Text(x)
	if why != api.OK && (x != "" || rest != "") || why == api.OK && text+rest != s {
		t.Fatalf("GetText(%x): %x, %x, %d", s, x, rest, why)
	}
}

func TestWhatIsReadHasItsBytes(t *testing.T) {
	r := rand.New(rand.NewSource(3))
	for range 20000 {
		hasItsBytes(t, noise(r, 40))
		hasItsBytes(t, string([]byte{byte(r.Intn(8))})+noise(r, 40))
	}
}

func FuzzWhatIsReadHasItsBytes(f *testing.F) {
	for _, s := range []string{"", "\x00", "\x80\x00", "\xac\x02z", "\x02\x01\xc8\x01z", "\x02abz", strings.Repeat("\xff", 9) + "\x01"} {
		f.Add(s)
	}
	f.Fuzz(func(t *testing.T, s string) {
		sameAsPlainGet(t, s)
		hasItsBytes(t, s)
	})
}

// P1, P3, P4

func TestNilAndEmptyAreAlike(t *testing.T) {
	for _, l := range [][]uint64{nil, {}, make([]uint64, 0, 9)} {
		if s, why := num.Row(l...); s != "\x00" || why != api.OK {
			t.Errorf("Row of none: %x, error %d", s, why)
		}
	}
	if s, why := num.Row(); s != "\x00" || why != api.OK {
		t.Errorf("Row(): %x, error %d", s, why)
	}
	if l, rest, why := num.GetRow("\x00z"); len(l) != 0 || rest != "z" || why != api.OK {
		t.Errorf("GetRow of none: %d, %x, error %d", l, rest, why)
	}
	if x, rest, why := num.GetText("\x00z"); x != "" || rest != "z" || why != api.OK {
		t.Errorf("GetText of none: %x, %x, error %d", x, rest, why)
	}
}

func TestAnswersHangOnArgumentsAlone(t *testing.T) {
	r := rand.New(rand.NewSource(4))
	texts := make([]string, 300)
	var before []string
	for i := range texts {
		texts[i] = noise(r, 20)
		before = append(before, num.Put(uint64(i)*77))
	}
	slices.Reverse(texts)
	for _, s := range texts {
		sameAsPlainGet(t, s)
	}
	for i := range texts {
		if num.Put(uint64(i)*77) != before[i] {
			t.Fatalf("Put(%d) tells another thing later", i*77)
		}
	}
}

func TestNoGoroutineIsLeft(t *testing.T) {
	before := runtime.NumGoroutine()
	row, _ := num.Row(numbers(api.MaxRow)...)
	text, _ := num.Text(strings.Repeat("a", api.MaxText))
	num.GetRow(row)
	num.GetText(text)
	num.GetRow("\x05")
	num.Get(num.Put(300))
	num.Zag(num.Zig(-3))
	if after := runtime.NumGoroutine(); after > before {
		t.Errorf("%d goroutines, and %d ahead of the calls", after, before)
	}
}
