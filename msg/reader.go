package msg

import (
	"spoor/api"
	"spoor/num"
)

const numBytes = 10 // bytes of the greatest number: num.Get goes no further

// tape is bytes that are read from their beginning on: rest is what is left of them.
type tape struct {
	rest string
}

// reader reads parts off its tape; bad, if one was not there.
type reader struct {
	tape
	bad bool
}

// part reads a part, whatever it is. Behind one that is not there no other one is read: so it is enough to ask at the end whether all were there.
func part[T any](r *reader, read func(*tape) (T, bool)) T {
	var none T
	if r.bad {
		return none
	}
	p, is := read(&r.tape)
	if !is {
		r.bad = true
		return none
	}
	return p
}

// first reads the right thing whose bytes s begins with; what is behind them is still a piece of s.
func first[T any](s string, read func(*reader) T, check func(T) api.Errno) (T, string, api.Errno) {
	r := reader{tape: tape{rest: s}}
	thing := read(&r)
	if r.bad || check(thing) != api.OK {
		var none T
		return none, "", api.ErrCode
	}
	return thing, r.rest, api.OK
}

// readEvent reads what may be an event's body; first asks whether it is right.
func readEvent(r *reader) api.Event {
	var e api.Event
	e.Kind = part(r, single[api.EventKind])
	e.Router = part(r, number[int])
	e.Seq = part(r, number[uint64])
	e.Time = part(r, number[int64])
	switch e.Kind {
	case api.EventAdd:
		e.Prefix = readPrefix(r)
		e.Action = readAction(r)
	case api.EventWithdraw:
		e.Prefix = readPrefix(r)
	case api.EventLinkUp:
		e.Iface = part(r, number[int])
		e.Peer = part(r, number[int])
	case api.EventLinkDown:
		e.Iface = part(r, number[int])
	}
	return e
}

// readPrefix reads what may be a prefix's bytes; a Len that is too great is left to the check of the prefix.
func readPrefix(r *reader) api.Prefix {
	var p api.Prefix
	p.Six = part(r, isSix)
	p.Len = int(part(r, single[byte]))
	f, many := familyOf(p.Six), bytesWithin(p.Len)
	p.Addr = part(r, func(t *tape) (api.Addr, bool) {
		s, is := t.take(many)
		return f.gather(s), is
	})
	return p
}

func readAction(r *reader) api.Action {
	var a api.Action
	a.Kind = part(r, single[api.ActionKind])
	if a.Kind == api.ActionForward {
		a.Iface = part(r, number[int])
	}
	return a
}

// take answers the next bytes, if there are so many.
func (t *tape) take(many int) (string, bool) {
	if len(t.rest) < many {
		return "", false
	}
	s := t.rest[:many]
	t.rest = t.rest[many:]
	return s, true
}

// single reads one byte.
func single[T ~uint8](t *tape) (T, bool) {
	s, is := t.take(1)
	if !is {
		return 0, false
	}
	return T(s[0]), true
}

// isSix reads which kind of addresses comes.
func isSix(t *tape) (bool, bool) {
	mark, is := single[byte](t)
	return mark == sixMark, is && (mark == fourMark || mark == sixMark)
}

// number reads a number that a T can be. Of the tape only a number's bytes go to num.Get, which answers all that is behind them as a copy.
func number[T int | int64 | uint64](t *tape) (T, bool) {
	head := t.rest[:min(len(t.rest), numBytes)]
	told, behind, why := num.Get(head)
	n := T(told)
	if why != api.OK || n < 0 || uint64(n) != told {
		return 0, false
	}
	t.rest = t.rest[len(head)-len(behind):]
	return n, true
}
