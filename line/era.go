package line

import (
	"iter"

	"spoor/api"
)

// line is what holds at each time of a window, whatever that is: eras, each right behind the one ahead of it, no two neighbours alike.
type line[T comparable] []era[T]

// era is times in which one thing holds.
type era[T comparable] struct {
	ivl   api.Ivl
	holds T
}

// of tells whether eras are a line of a right window. That no end is beyond the window's is asked of each of them, so that the time behind an end is always a number.
func (l line[T]) of(w api.Ivl) bool {
	next := w.From
	for i, e := range l {
		if e.ivl.From != next || e.ivl.To < e.ivl.From || e.ivl.To > w.To {
			return false
		}
		if i > 0 && e.holds == l[i-1].holds {
			return false
		}
		next = e.ivl.To + 1
	}
	return next == w.To+1
}

// put answers the line with times right behind it, in which a thing holds: if that holds up to there, its era goes on.
func (l line[T]) put(i api.Ivl, holds T) line[T] {
	last := len(l) - 1
	if last < 0 || l[last].holds != holds {
		return append(l, era[T]{i, holds})
	}
	l[last].ivl.To = i.To
	return l
}

// when answers the times at which a thing holds, as a row.
func (l line[T]) when(holds T) []api.Ivl {
	var row []api.Ivl
	for _, e := range l {
		if e.holds == holds {
			row = append(row, e.ivl)
		}
	}
	return row
}

// cut answers the line of a part of the window.
func (l line[T]) cut(to api.Ivl) line[T] {
	var part line[T]
	for _, e := range l {
		if i := common(e.ivl, to); i.From <= i.To {
			part = append(part, era[T]{i, e.holds})
		}
	}
	return part
}

// common answers the times that are in both of two intervals. If there is none, it ends ahead of its beginning.
func common(a, b api.Ivl) api.Ivl {
	return api.Ivl{From: max(a.From, b.From), To: min(a.To, b.To)}
}

// together tells the times in which neither of two lines of one window turns, and what each of them holds then.
func together[T comparable](a, b line[T]) iter.Seq2[api.Ivl, [2]T] {
	return func(yield func(api.Ivl, [2]T) bool) {
		for i, j := 0, 0; i < len(a) && j < len(b); {
			x, y := a[i], b[j]
			if !yield(common(x.ivl, y.ivl), [2]T{x.holds, y.holds}) {
				return
			}
			if x.ivl.To <= y.ivl.To {
				i++
			}
			if y.ivl.To <= x.ivl.To {
				j++
			}
		}
	}
}
