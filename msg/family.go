package msg

import "spoor/api"

// The bytes of an address's two halves, one behind the other.
const (
	halfBytes = 8
	allBytes  = 2 * halfBytes
)

// The bytes that a prefix's kind is told by.
const (
	fourMark = 4
	sixMark  = 6
)

// family is how a kind of addresses is laid out: the byte that tells it, and where its bytes begin among those of both halves.
type family struct {
	mark byte
	from int
}

func familyOf(six bool) family {
	if six {
		return family{mark: sixMark}
	}
	return family{mark: fourMark, from: allBytes - 4}
}

// lay answers all of a's bytes, the highest first.
func (f family) lay(a api.Addr) string {
	var b [allBytes]byte
	for i := range halfBytes {
		b[halfBytes-1-i] = byte(a.Hi >> (8 * i))
		b[allBytes-1-i] = byte(a.Lo >> (8 * i))
	}
	return string(b[f.from:])
}

// gather answers the address whose first bytes s are, the others being 0. What is too much of s is left out.
func (f family) gather(s string) api.Addr {
	var b [allBytes]byte
	copy(b[f.from:], s)
	var a api.Addr
	for i := range halfBytes {
		a.Hi = a.Hi<<8 | uint64(b[i])
		a.Lo = a.Lo<<8 | uint64(b[halfBytes+i])
	}
	return a
}

// bytesWithin tells how many bytes have bits of the first long ones.
func bytesWithin(long int) int {
	return (long + 7) / 8
}
