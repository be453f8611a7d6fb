package diff

import (
	"iter"

	"spoor/addr"
	"spoor/api"
	"spoor/atoms"
	"spoor/past"
	"spoor/walk"
)

// pair is a past, and its nets at two times.
type pair struct {
	api.Past
	one, other api.Net
}

// between answers a past and its nets at t and at u, or past.At's error of t, then of u: ErrForm just if the past is not right.
func between(p api.Past, t, u int64) (pair, api.Errno) {
	one, why := past.At(p, t)
	if why != api.OK {
		return pair{}, why
	}
	other, why := past.At(p, u)
	return pair{p, one, other}, why
}

// unlike tells the atoms of the past whose verdicts from a router are unlike in the two nets. Of each one address is asked, since what becomes of all of them is the same.
func (x pair) unlike(router int, six bool) iter.Seq[api.Span] {
	return func(yield func(api.Span) bool) {
		cuts, _ := atoms.Cuts(x.Past, six)
		spans, _ := atoms.Spans(six, cuts)
		for _, s := range spans {
			_, v, _ := walk.Walk(x.one, router, six, s.From)
			_, w, _ := walk.Walk(x.other, router, six, s.From)
			if v != w && !yield(s) {
				return
			}
		}
	}
}

// row is spans of which none touches the one ahead of it.
type row []api.Span

// put answers the row with a span that is behind it: if that touches its last one, they are one.
func (l row) put(six bool, s api.Span) row {
	last := len(l) - 1
	ahead, _ := addr.Prev(six, s.From) // none of the first address of all, ahead of which there is no row
	if last < 0 || l[last].To != ahead {
		return append(l, s)
	}
	l[last].To = s.To
	return l
}
