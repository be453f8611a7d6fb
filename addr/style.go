package addr

import (
	"strconv"
	"strings"

	"spoor/api"
)

const slash = "/" // between a prefix's address and its length

// style is how a kind of addresses is written: wide bits in groups of some bits each, the highest first, by the digits of a base, with a mark between each two.
type style struct {
	wide int
	bits int
	base int
	mark string
}

func styleOf(six bool) style {
	if six {
		return style{wide: 2 * halfWide, bits: 16, base: 16, mark: ":"}
	}
	return style{wide: 32, bits: 8, base: 10, mark: "."}
}

// group answers the group of a whose lowest bit is that at a place. None has bits of both halves.
func (s style) group(a api.Addr, place int) uint64 {
	half := a.Lo
	if place >= halfWide {
		half = a.Hi
	}
	return half >> (place % halfWide) & (1<<s.bits - 1)
}

// write answers a's text.
func (s style) write(a api.Addr) string {
	var b strings.Builder
	for place := s.wide - s.bits; place >= 0; place -= s.bits {
		b.WriteString(strconv.FormatUint(s.group(a, place), s.base))
		if place > 0 {
			b.WriteString(s.mark)
		}
	}
	return b.String()
}

// read answers the address whose text t is, if there is one. An address has one text: needless noughts and capital letters, which strconv lets pass, come to another one than t.
func (s style) read(t string) (api.Addr, bool) {
	many := s.wide / s.bits
	groups := strings.SplitN(t, s.mark, many+1)
	if len(groups) != many {
		return api.Addr{}, false
	}
	var a api.Addr
	for _, g := range groups {
		n, err := strconv.ParseUint(g, s.base, s.bits)
		if err != nil {
			return api.Addr{}, false
		}
		a = api.Addr{Hi: a.Hi<<s.bits | a.Lo>>(halfWide-s.bits), Lo: a.Lo<<s.bits | n}
	}
	return a, s.write(a) == t
}
