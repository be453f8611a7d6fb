package span

import "slices"

// run is the things from one up to another, both within.
type run[T any] struct {
	from, to T
}

// field is a field of things in order: whether a thing is of it, how two of them stand, and which one is next to one, and ahead of it, if any is.
type field[T any] struct {
	is    func(T) bool
	order func(a, b T) int
	next  func(T) (T, bool)
	prev  func(T) (T, bool)
}

// right tells whether a run is one of the field.
func (f field[T]) right(r run[T]) bool {
	return f.is(r.from) && f.is(r.to) && f.order(r.from, r.to) <= 0
}

// has tells whether a right run has a thing.
func (f field[T]) has(r run[T], a T) bool {
	return f.order(r.from, a) <= 0 && f.order(a, r.to) <= 0
}

// apart tells whether a thing lies between the end of a run and a beginning: two runs that are not apart are one.
func (f field[T]) apart(to, from T) bool {
	next, is := f.next(to)
	return is && f.order(next, from) < 0
}

// row tells whether runs are right, and each apart from the one ahead of it.
func (f field[T]) row(l []run[T]) bool {
	for i, r := range l {
		if !f.right(r) || i > 0 && !f.apart(l[i-1].to, r.from) {
			return false
		}
	}
	return true
}

// or answers the row of the things that are in one of any right runs.
func (f field[T]) or(l []run[T]) []run[T] {
	var row []run[T]
	sorted := slices.SortedFunc(slices.Values(l), func(a, b run[T]) int { return f.order(a.from, b.from) })
	for _, r := range sorted {
		last := len(row) - 1
		switch {
		case last < 0 || f.apart(row[last].to, r.from):
			row = append(row, r)
		case f.order(row[last].to, r.to) < 0:
			row[last].to = r.to
		}
	}
	return row
}

// and answers the row of the things that are in both of two rows.
func (f field[T]) and(a, b []run[T]) []run[T] {
	var row []run[T]
runs:
	for _, r := range a {
		for len(b) > 0 {
			if s := f.common(r, b[0]); f.right(s) {
				row = append(row, s)
			}
			if f.order(b[0].to, r.to) > 0 {
				continue runs // what is left of b's run may be in a's next one
			}
			b = b[1:]
		}
	}
	return row
}

// common answers the run of the things that are in both of two runs. If none is, it ends ahead of its beginning.
func (f field[T]) common(r, s run[T]) run[T] {
	if f.order(r.from, s.from) < 0 {
		r.from = s.from
	}
	if f.order(r.to, s.to) > 0 {
		r.to = s.to
	}
	return r
}

// not answers the row of the things of all that are not in a row, which lies within all.
func (f field[T]) not(l []run[T], all run[T]) []run[T] {
	var row []run[T]
	from, more := all.from, true
	for _, r := range l {
		if to, is := f.prev(r.from); is && f.order(from, to) <= 0 {
			row = append(row, run[T]{from, to})
		}
		from, more = f.next(r.to)
	}
	if more {
		row = append(row, run[T]{from, all.to})
	}
	return row
}
