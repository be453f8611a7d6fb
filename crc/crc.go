// Package crc has check sums, and sums of texts put together: see ../../shared/DOC.md and doc/02-crc.md.
package crc

import (
	"strings"

	"spoor/api"
)

const (
	divisor  = 2197175160
	sumBytes = 4

	// A register is also a polynomial, whose highest bit is x^0 and whose lowest one is x^31: to halve it is to take it by x.
	one   = 1 << 31 // x^0
	aByte = 1 << 23 // x^8: what a zero byte takes the register by
)

// Of answers s's sum.
func Of(s string) uint32 {
	return On(0, s)
}

// On answers the sum of a text whose sum is sum, with s behind it.
func On(sum uint32, s string) uint32 {
	r := ^sum
	for i := range len(s) {
		r ^= uint32(s[i])
		for range 8 {
			r = halved(r)
		}
	}
	return ^r
}

// halved does one of a byte's eight steps. It does not branch: which way it went would be a guess at each bit.
func halved(r uint32) uint32 {
	return r>>1 ^ divisor*(r&1)
}

// Zeros answers On of many zero bytes.
func Zeros(sum uint32, many int) (uint32, api.Errno) {
	if !mayBeMany(many) {
		return 0, api.ErrRange
	}
	return ^behind(^sum, many), api.OK
}

// Join answers the sum of two texts, one behind the other, whose sums are a and b, the second one having many bytes. What both sums were turned by falls out, so a goes on as it is.
func Join(a, b uint32, many int) (uint32, api.Errno) {
	if !mayBeMany(many) {
		return 0, api.ErrRange
	}
	return behind(a, many) ^ b, api.OK
}

func mayBeMany(many int) bool {
	return many >= 0 && many <= api.MaxZeros
}

// behind answers a register many zero bytes later. It squares its way there: byte by byte MaxZeros of them would take too long.
func behind(r uint32, many int) uint32 {
	step := uint32(aByte)
	for many > 0 {
		if many&1 == 1 {
			r = product(r, step)
		}
		step = product(step, step)
		many >>= 1
	}
	return r
}

// product answers a taken by b, what is left of it by the divisor.
func product(a, b uint32) uint32 {
	var p uint32
	for i := range 32 {
		if a&(one>>i) != 0 {
			p ^= b
		}
		b = halved(b)
	}
	return p
}

// Text answers a sum's bytes, the highest one first.
func Text(sum uint32) string {
	var b [sumBytes]byte
	for i := range sumBytes {
		b[i] = byte(sum >> (24 - 8*i))
	}
	return string(b[:])
}

// Read answers the sum whose bytes s begins with, and what is behind them.
func Read(s string) (uint32, string, api.Errno) {
	if len(s) < sumBytes {
		return 0, "", api.ErrShort
	}
	var sum uint32
	for i := range sumBytes {
		sum = sum<<8 | uint32(s[i])
	}
	return sum, strings.Clone(s[sumBytes:]), api.OK
}

// Sealed answers s with its sum's bytes behind it.
func Sealed(s string) (string, api.Errno) {
	if len(s) > api.MaxText {
		return "", api.ErrLong
	}
	return s + Text(Of(s)), api.OK
}

// Open answers what Sealed sealed.
func Open(s string) (string, api.Errno) {
	if len(s) < sumBytes {
		return "", api.ErrShort
	}
	end := len(s) - sumBytes
	if s[end:] != Text(Of(s[:end])) {
		return "", api.ErrSum
	}
	return strings.Clone(s[:end]), api.OK
}
