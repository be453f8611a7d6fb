package query

import (
	"strings"

	"spoor/api"
	"spoor/num"
)

// The bytes that an address's kind is told by.
const (
	fourMark = 4
	sixMark  = 6
)

// numbers answers some numbers' bytes, one behind the other. What the document calls a byte is one below 128, which is that number's bytes.
func numbers(l ...uint64) string {
	var b strings.Builder
	for _, n := range l {
		b.WriteString(num.Put(n))
	}
	return b.String()
}

// listBytes answers how many parts there are, and each one's bytes.
func listBytes[T any](l []T, part func(T) string) string {
	var b strings.Builder
	b.WriteString(numbers(uint64(len(l))))
	for _, p := range l {
		b.WriteString(part(p))
	}
	return b.String()
}

// askBytes answers a right question's bytes.
func askBytes(a api.Ask) string {
	has := named(a.Kind)
	s := numbers(uint64(a.Kind))
	if has.router {
		s += routerBytes(a.Router)
	}
	if has.six {
		s += numbers(mark(a.Six))
	}
	if has.addr {
		s += numbers(a.Addr.Hi, a.Addr.Lo)
	}
	if has.from {
		s += numbers(uint64(a.From))
	}
	if has.to {
		s += numbers(uint64(a.To))
	}
	return s
}

func mark(six bool) uint64 {
	if six {
		return sixMark
	}
	return fourMark
}

// replyBytes answers a right answer's bytes.
func replyBytes(r api.Reply) string {
	s := numbers(uint64(r.Why))
	if r.Why != api.OK {
		return s
	}
	return s + listBytes(r.Eras, eraBytes) + listBytes(r.Routers, routerBytes) + listBytes(r.Spans, spanBytes) + listBytes(r.Nums, signedBytes)
}

func eraBytes(e api.Era) string {
	return numbers(uint64(e.Ivl.From), uint64(e.Ivl.To), uint64(e.Verdict.Kind), uint64(e.Verdict.At))
}

func routerBytes(id int) string {
	return numbers(uint64(id))
}

func spanBytes(s api.Span) string {
	return numbers(s.From.Hi, s.From.Lo, s.To.Hi, s.To.Lo)
}

func signedBytes(n int64) string {
	return numbers(num.Zig(n))
}
