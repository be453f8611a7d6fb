// Package num has numbers, rows of them, and texts as bytes: see ../../shared/DOC.md and doc/01-num.md.
package num

import (
	"math/bits"
	"strings"

	"spoor/api"
)

const (
	maxBytes = 10   // bytes of the greatest number
	more     = 0x80 // each byte of a number but the last one has it
	topBits  = 1    // the greatest tenth byte: nine bytes leave one bit of 64
)

// Put answers n's bytes.
func Put(n uint64) string {
	var b [maxBytes]byte
	many := bytesOf(n)
	for i := range many {
		b[i] = byte(n>>(7*i)) | more
	}
	b[many-1] &^= more
	return string(b[:many])
}

// bytesOf tells how many bytes n has: 0 has one, as 1 does.
func bytesOf(n uint64) int {
	return (bits.Len64(n|1) + 6) / 7
}

// Get answers the number whose bytes s begins with, and what is behind them.
func Get(s string) (uint64, string, api.Errno) {
	n, rest, why := first(s)
	return n, strings.Clone(rest), why
}

// first is Get whose rest is still a piece of s, so that a long list is not copied anew for each of its parts. It goes no further than the tenth byte, which is always a last one.
func first(s string) (uint64, string, api.Errno) {
	var n uint64
	for i := range min(len(s), maxBytes) {
		b := s[i]
		if i == maxBytes-1 && b > topBits {
			return 0, "", api.ErrCode
		}
		n |= uint64(b&^more) << (7 * i)
		if b >= more {
			continue
		}
		if b == 0 && i > 0 {
			return 0, "", api.ErrCode
		}
		return n, s[i+1:], api.OK
	}
	return 0, "", api.ErrShort
}

// Row answers the bytes of a row of numbers.
func Row(l ...uint64) (string, api.Errno) {
	if len(l) > api.MaxRow {
		return "", api.ErrLong
	}
	var b strings.Builder
	b.WriteString(Put(uint64(len(l))))
	for _, n := range l {
		b.WriteString(Put(n))
	}
	return b.String(), api.OK
}

// GetRow answers the row whose bytes s begins with, and what is behind them.
func GetRow(s string) ([]uint64, string, api.Errno) {
	l, rest, why := list(s, api.MaxRow, first)
	return l, strings.Clone(rest), why
}

// Text answers the bytes of a text.
func Text(t string) (string, api.Errno) {
	if len(t) > api.MaxText {
		return "", api.ErrLong
	}
	return Put(uint64(len(t))) + t, api.OK
}

// GetText answers the text whose bytes s begins with, and what is behind them.
func GetText(s string) (string, string, api.Errno) {
	t, rest, why := list(s, api.MaxText, firstByte)
	return string(t), strings.Clone(rest), why
}

// firstByte reads a part of a text as first reads one of a row.
func firstByte(s string) (byte, string, api.Errno) {
	if s == "" {
		return 0, "", api.ErrShort
	}
	return s[0], s[1:], api.OK
}

// list reads how many parts there are, most at most, and each of them by part.
func list[T any](s string, most uint64, part func(string) (T, string, api.Errno)) ([]T, string, api.Errno) {
	many, rest, why := first(s)
	if why != api.OK {
		return nil, "", why
	}
	if many > most {
		return nil, "", api.ErrCode
	}
	var l []T
	for range many {
		var p T
		p, rest, why = part(rest)
		if why != api.OK {
			return nil, "", why
		}
		l = append(l, p)
	}
	return l, rest, api.OK
}

// Zig answers 2n, if n is 0 or more, else -2n - 1: the sign's bit, spread over all bits, turns them.
func Zig(n int64) uint64 {
	return uint64(n<<1) ^ uint64(n>>63)
}

// Zag answers the n whose Zig is u.
func Zag(u uint64) int64 {
	return int64(u>>1) ^ -int64(u&1)
}
