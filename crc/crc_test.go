package crc_test

import (
	"hash/crc32"
	"math"
	"math/rand"
	"runtime"
	"strings"
	"testing"
	"unsafe"

	"spoor/api"
	"spoor/crc"
)

// The calls have the signatures of doc/02-crc.md.
var (
	_ func(string) uint32                           = crc.Of
	_ func(uint32, string) uint32                   = crc.On
	_ func(uint32, int) (uint32, api.Errno)         = crc.Zeros
	_ func(uint32, uint32, int) (uint32, api.Errno) = crc.Join
	_ func(uint32) string                           = crc.Text
	_ func(string) (uint32, string, api.Errno)      = crc.Read
	_ func(string) (string, api.Errno)              = crc.Sealed
	_ func(string) (string, api.Errno)              = crc.Open
)

// plainSum is the document's words for a text's sum, one after the other.
func plainSum(s string) uint32 {
	n := uint32(4294967295)
	for i := 0; i < len(s); i++ {
		n ^= uint32(s[i])
		for k := 0; k < 8; k++ {
			odd := n%2 == 1
			n /= 2
			if odd {
				n ^= 2197175160
			}
		}
	}
	return n ^ 4294967295
}

// plainOn goes on with a sum as Go's library does.
func plainOn(sum uint32, s string) uint32 {
	return crc32.Update(sum, crc32.MakeTable(crc32.Castagnoli), []byte(s))
}

// plainZeros is plainOn of many zero bytes.
func plainZeros(sum uint32, many int) uint32 {
	const chunk = 1 << 20
	zeros := make([]byte, min(many, chunk))
	table := crc32.MakeTable(crc32.Castagnoli)
	for ; many > 0; many -= chunk {
		sum = crc32.Update(sum, table, zeros[:min(many, chunk)])
	}
	return sum
}

// plainText is a sum's bytes, the highest one first.
func plainText(sum uint32) string {
	return string([]byte{byte(sum >> 24), byte(sum >> 16), byte(sum >> 8), byte(sum)})
}

func noise(r *rand.Rand, most int) string {
	b := make([]byte, r.Intn(most+1))
	r.Read(b)
	return string(b)
}

func texts() []string {
	all := make([]byte, 256)
	for i := range all {
		all[i] = byte(i)
	}
	return []string{"", "a", "ab", "abc", "abcd", "abcde", "123456789", "\x00", "\x00\x00\x00\x00", "\xff\xff\xff\xff", string(all),
		strings.Repeat("\x00", 32), strings.Repeat("\xff", 32), strings.Repeat("spoor", 1000), strings.Repeat("z", api.MaxText), strings.Repeat("z", api.MaxText+1)}
}

func sums() []uint32 {
	return []uint32{0, 1, 2, 0x80, 0x8000, 1 << 31, 0x7fffffff, 0xfffffffe, 0xffffffff, 0xe3069283, 0x12345678, 2197175160}
}

// 2.1

func TestOfIsTheSum(t *testing.T) {
	if got := crc.Of("123456789"); got != 3808858755 {
		t.Errorf("Of(123456789): %d", got)
	}
	if got := crc.Of(""); got != 0 {
		t.Errorf("Of(nothing): %d", got)
	}
	for _, s := range texts() {
		if got := crc.Of(s); got != plainSum(s) || got != plainOn(0, s) {
			t.Errorf("Of %d bytes: %08x, not %08x", len(s), got, plainSum(s))
		}
	}
	for a := range 256 {
		for b := range 256 {
			if s := string([]byte{byte(a), byte(b)}); crc.Of(s) != plainSum(s) {
				t.Fatalf("Of(%x): %08x, not %08x", s, crc.Of(s), plainSum(s))
			}
		}
	}
}

func TestOnGoesOnWithASum(t *testing.T) {
	for _, sum := range sums() {
		for _, s := range texts() {
			if got := crc.On(sum, s); got != plainOn(sum, s) {
				t.Errorf("On(%08x) of %d bytes: %08x, not %08x", sum, len(s), got, plainOn(sum, s))
			}
		}
		if got := crc.On(sum, ""); got != sum {
			t.Errorf("On(%08x) of nothing: %08x", sum, got)
		}
	}
}

func TestZerosGoOnByZeroBytes(t *testing.T) {
	for _, sum := range sums() {
		for many := range 70 {
			got, why := crc.Zeros(sum, many)
			if want := crc.On(sum, strings.Repeat("\x00", many)); got != want || got != plainZeros(sum, many) || why != api.OK {
				t.Fatalf("Zeros(%08x, %d): %08x, error %d, not %08x", sum, many, got, why, want)
			}
		}
	}
	for k := range 24 {
		for _, many := range []int{1<<k - 1, 1 << k, 1<<k + 1} {
			if got, why := crc.Zeros(0xe3069283, many); got != plainZeros(0xe3069283, many) || why != api.OK {
				t.Fatalf("Zeros of %d: %08x, error %d", many, got, why)
			}
		}
	}
}

func TestZerosUpToMaxZeros(t *testing.T) {
	for _, many := range []int{api.MaxZeros - 1, api.MaxZeros} {
		if got, why := crc.Zeros(0x12345678, many); got != plainZeros(0x12345678, many) || why != api.OK {
			t.Errorf("Zeros of %d: %08x, error %d", many, got, why)
		}
	}
}

func TestJoinUpToMaxZeros(t *testing.T) {
	a := plainSum("ahead")
	for _, many := range []int{api.MaxZeros - 1, api.MaxZeros} {
		got, why := crc.Join(a, plainZeros(0, many), many)
		if want := plainZeros(a, many); got != want || why != api.OK {
			t.Errorf("Join with %d zero bytes: %08x, error %d, not %08x", many, got, why, want)
		}
	}
}

func TestManyOutsideIsRefused(t *testing.T) {
	for _, many := range []int{-1, -2, -api.MaxZeros, math.MinInt, math.MinInt + 1, api.MaxZeros + 1, api.MaxZeros + 2, 1 << 32, 1 << 40, math.MaxInt} {
		for _, sum := range sums() {
			if got, why := crc.Zeros(sum, many); got != 0 || why != api.ErrRange {
				t.Errorf("Zeros(%08x, %d): %08x, error %d", sum, many, got, why)
			}
			if got, why := crc.Join(sum, 5, many); got != 0 || why != api.ErrRange {
				t.Errorf("Join(%08x, 5, %d): %08x, error %d", sum, many, got, why)
			}
		}
	}
}

// 2.2

func TestTextIsTheHighestByteFirst(t *testing.T) {
	for sum, want := range map[uint32]string{0xe3069283: "\xe3\x06\x92\x83", 0: "\x00\x00\x00\x00", 1: "\x00\x00\x00\x01", 1 << 24: "\x01\x00\x00\x00", 0xffffffff: "\xff\xff\xff\xff"} {
		if got := crc.Text(sum); got != want {
			t.Errorf("Text(%08x): %x", sum, got)
		}
	}
	for _, sum := range sums() {
		if got := crc.Text(sum); got != plainText(sum) {
			t.Errorf("Text(%08x): %x", sum, got)
		}
	}
}

func TestReadAnswersTheSumAndWhatIsBehind(t *testing.T) {
	for _, sum := range sums() {
		for _, rest := range texts() {
			got, behind, why := crc.Read(plainText(sum) + rest)
			if got != sum || behind != rest || why != api.OK {
				t.Fatalf("Read of %08x and %d bytes: %08x, %d bytes, error %d", sum, len(rest), got, len(behind), why)
			}
		}
	}
}

func TestFewerThanFourBytesAreShort(t *testing.T) {
	for _, s := range []string{"", "a", "ab", "abc", "\x00", "\x00\x00\x00", "\xff\xff\xff"} {
		if sum, rest, why := crc.Read(s); sum != 0 || rest != "" || why != api.ErrShort {
			t.Errorf("Read(%x): %08x, %x, error %d", s, sum, rest, why)
		}
		if got, why := crc.Open(s); got != "" || why != api.ErrShort {
			t.Errorf("Open(%x): %x, error %d", s, got, why)
		}
	}
}

func TestSealedHasItsSumBehind(t *testing.T) {
	for _, s := range texts() {
		if len(s) > api.MaxText {
			continue
		}
		got, why := crc.Sealed(s)
		if got != s+plainText(plainSum(s)) || why != api.OK {
			t.Errorf("Sealed of %d bytes: %d bytes, error %d", len(s), len(got), why)
		}
	}
	if got, why := crc.Sealed(""); got != "\x00\x00\x00\x00" || why != api.OK {
		t.Errorf("Sealed of nothing: %x, error %d", got, why)
	}
}

func TestSealedRefusesMoreThanMaxText(t *testing.T) {
	for _, many := range []int{api.MaxText + 1, api.MaxText + 2, 4 * api.MaxText} {
		if got, why := crc.Sealed(strings.Repeat("a", many)); got != "" || why != api.ErrLong {
			t.Errorf("Sealed of %d: %d bytes, error %d", many, len(got), why)
		}
	}
}

// Open has no limit of its own: MaxText is Sealed's.
func TestOpenAnswersWhatWasSealed(t *testing.T) {
	for _, s := range texts() {
		if got, why := crc.Open(s + plainText(plainSum(s))); got != s || why != api.OK {
			t.Errorf("Open of %d bytes: %d bytes, error %d", len(s), len(got), why)
		}
	}
}

func TestOpenRefusesAnotherSum(t *testing.T) {
	whole := "some bytes" + plainText(plainSum("some bytes"))
	for at := range len(whole) {
		for turn := 1; turn < 256; turn++ {
			b := []byte(whole)
			b[at] ^= byte(turn)
			if got, why := crc.Open(string(b)); got != "" || why != api.ErrSum {
				t.Fatalf("Open with byte %d turned by %02x: %x, error %d", at, turn, got, why)
			}
		}
	}
	for _, s := range []string{"abcd", "abcde", "\x00\x00\x00\x01", "\xff\xff\xff\xff", whole + "z", whole[1:], whole[:len(whole)-1]} {
		if got, why := crc.Open(s); got != "" || why != api.ErrSum {
			t.Errorf("Open(%x): %x, error %d", s, got, why)
		}
	}
}

// 2.3

func TestLaterCallsLeaveAnswersAlone(t *testing.T) {
	a, _ := crc.Sealed("first")
	b, _ := crc.Open(a)
	_, rest, _ := crc.Read("abcdrest")
	text := crc.Text(0xe3069283)
	crc.Sealed("other")
	crc.Read("efghmore")
	crc.Text(0x12345678)
	if a != "first"+plainText(plainSum("first")) || b != "first" || rest != "rest" || text != "\xe3\x06\x92\x83" {
		t.Errorf("answers turned: %x, %x, %x, %x", a, b, rest, text)
	}
}

// share tells whether two texts lie in the same memory, in part at least. (Of single bytes Go itself keeps one copy each.)
func share(a, b string) bool {
	if len(a) < 2 || len(b) < 2 {
		return false
	}
	fromA, fromB := uintptr(unsafe.Pointer(unsafe.StringData(a))), uintptr(unsafe.Pointer(unsafe.StringData(b)))
	return fromA < fromB+uintptr(len(b)) && fromB < fromA+uintptr(len(a))
}

func TestTextsAreNewMemory(t *testing.T) {
	plain := strings.Repeat("some bytes", 10)
	whole := plain + plainText(plainSum(plain))
	tell := func() []string {
		_, a, _ := crc.Read(whole)
		b, _ := crc.Sealed(plain)
		c, _ := crc.Sealed("")
		d, _ := crc.Open(whole)
		return []string{crc.Text(0xe3069283), a, b, c, d}
	}
	all := append(tell(), tell()...)
	all = append(all, plain, whole)
	for i, a := range all {
		for k, b := range all[:i] {
			if share(a, b) {
				t.Errorf("texts %d and %d share memory", k, i)
			}
		}
	}
}

// 2.4

func inPieces(t *testing.T, pieces ...string) {
	t.Helper()
	want := plainSum(strings.Join(pieces, ""))
	on, joined := crc.Of(""), crc.Of("")
	for _, p := range pieces {
		on = crc.On(on, p)
		var why api.Errno
		joined, why = crc.Join(joined, crc.Of(p), len(p))
		if why != api.OK {
			t.Fatalf("Join with %d bytes: error %d", len(p), why)
		}
	}
	if on != want || joined != want {
		t.Fatalf("in %d pieces: On %08x, Join %08x, not %08x", len(pieces), on, joined, want)
	}
}

func TestInPieces(t *testing.T) {
	inPieces(t)
	inPieces(t, "", "", "")
	whole := "123456789 and some more"
	for i := range len(whole) + 1 {
		for k := i; k <= len(whole); k++ {
			inPieces(t, whole[:i], whole[i:k], whole[k:])
		}
	}
	r := rand.New(rand.NewSource(1))
	for range 500 {
		var pieces []string
		for range r.Intn(6) {
			pieces = append(pieces, noise(r, 200))
		}
		inPieces(t, pieces...)
	}
	for _, s := range texts() {
		inPieces(t, s, s)
	}
}

// The piece ahead may itself be known by its sum alone.
func TestJoinOfAnySumAhead(t *testing.T) {
	for _, a := range sums() {
		for _, s := range texts() {
			if got, why := crc.Join(a, plainSum(s), len(s)); got != plainOn(a, s) || why != api.OK {
				t.Errorf("Join(%08x) of %d bytes: %08x, error %d, not %08x", a, len(s), got, why, plainOn(a, s))
			}
		}
	}
}

func FuzzInPieces(f *testing.F) {
	f.Add("", "")
	f.Add("1234", "56789")
	f.Add("a", "\x00\x00")
	f.Fuzz(func(t *testing.T, a, b string) {
		inPieces(t, a, b)
		crc.Open(a)
		crc.Read(b)
	})
}

// 2.5

func TestATurnedByteHasAnotherSum(t *testing.T) {
	for _, s := range []string{"a", "\x00", "123456789", strings.Repeat("\x00", 64), strings.Repeat("\xff", 40)} {
		sum := crc.Of(s)
		for at := range len(s) {
			for turn := 1; turn < 256; turn++ {
				b := []byte(s)
				b[at] ^= byte(turn)
				if crc.Of(string(b)) == sum {
					t.Fatalf("%x with byte %d turned by %02x has its sum", s, at, turn)
				}
			}
		}
	}
}

// P3, P4

func TestAnswersHangOnArgumentsAlone(t *testing.T) {
	for range 3 {
		for _, s := range []string{"123456789", "", "a", strings.Repeat("z", 300)} {
			zeros, _ := crc.Zeros(plainSum(s), 1000)
			if crc.Of(s) != plainSum(s) || zeros != plainZeros(plainSum(s), 1000) {
				t.Fatalf("the sum of %x turned", s)
			}
		}
	}
}

func TestNoGoroutineIsLeft(t *testing.T) {
	before := runtime.NumGoroutine()
	s, _ := crc.Sealed(strings.Repeat("a", api.MaxText))
	crc.Open(s)
	crc.Read(s)
	crc.Zeros(1, api.MaxZeros)
	crc.Join(1, 2, api.MaxZeros)
	crc.Join(1, 2, -1)
	if after := runtime.NumGoroutine(); after > before {
		t.Errorf("%d goroutines, and %d ahead of the calls", after, before)
	}
}
