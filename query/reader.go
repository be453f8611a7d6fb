package query

import (
	"math"

	"spoor/api"
	"spoor/num"
)

const numBytes = 10 // bytes of the greatest number: num.Get goes no further

// tape is bytes that are read from their beginning on: rest is what is left of them; bad, if they were not what was to be read.
type tape struct {
	rest string
	bad  bool
}

// upTo reads a number that is most at most. Behind what is bad there is nothing left. Of the tape only a number's bytes go to num.Get, which answers all that is behind them as a copy.
func (t *tape) upTo(most uint64) uint64 {
	head := t.rest[:min(len(t.rest), numBytes)]
	n, behind, why := num.Get(head)
	if why != api.OK || n > most {
		*t = tape{bad: true}
		return 0
	}
	t.rest = t.rest[len(head)-len(behind):]
	return n
}

// done tells whether all was read, and nothing was bad.
func (t *tape) done() bool {
	return t.rest == "" && !t.bad
}

// reader reads the parts of questions and of answers off its tape.
type reader struct {
	tape
}

// listOf reads how many parts there are, most at most, and each of them.
func listOf[T any](r *reader, most uint64, part func() T) []T {
	var l []T
	for range r.upTo(most) {
		l = append(l, part())
	}
	return l
}

// ask reads what may be a question; whether it is right is asked when all is read.
func (r *reader) ask() api.Ask {
	a := api.Ask{Kind: api.AskKind(r.upTo(uint64(api.AskCount - 1)))}
	has := named(a.Kind)
	if has.router {
		a.Router = r.router()
	}
	if has.six {
		a.Six = r.six()
	}
	if has.addr {
		a.Addr = r.addr()
	}
	if has.from {
		a.From = r.time()
	}
	if has.to {
		a.To = r.time()
	}
	return a
}

// reply reads what may be an answer; whether it is right is asked when all is read.
func (r *reader) reply() api.Reply {
	told := api.Reply{Why: api.Errno(r.upTo(api.MaxErrno))}
	if told.Why != api.OK {
		return told
	}
	told.Eras = listOf(r, api.MaxIvls, r.era)
	told.Routers = listOf(r, api.MaxIvls, r.router)
	told.Spans = listOf(r, api.MaxSpans, r.span)
	told.Nums = listOf(r, api.MaxNums, r.signed)
	return told
}

func (r *reader) era() api.Era {
	var e api.Era
	e.Ivl.From = r.time()
	e.Ivl.To = r.time()
	e.Verdict.Kind = api.VerdictKind(r.upTo(uint64(api.VerdictCount - 1)))
	e.Verdict.At = r.router()
	return e
}

func (r *reader) router() int {
	return int(r.upTo(api.MaxId))
}

func (r *reader) time() int64 {
	return int64(r.upTo(api.MaxTime))
}

// six reads which kind of addresses comes.
func (r *reader) six() bool {
	m := r.upTo(sixMark)
	r.bad = r.bad || m != fourMark && m != sixMark
	return m == sixMark
}

func (r *reader) addr() api.Addr {
	var a api.Addr
	a.Hi = r.upTo(math.MaxUint64)
	a.Lo = r.upTo(math.MaxUint64)
	return a
}

func (r *reader) span() api.Span {
	var s api.Span
	s.From = r.addr()
	s.To = r.addr()
	return s
}

func (r *reader) signed() int64 {
	return num.Zag(r.upTo(math.MaxUint64))
}
