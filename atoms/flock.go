package atoms

import (
	"iter"

	"spoor/api"
	"spoor/fib"
)

// flock is atoms that are parted into classes, which are numbered from 0 on, by their first atoms: class has each atom's.
type flock struct {
	six   bool
	cuts  []api.Addr
	class []int
}

// trait is what the atoms of one class have in common: the class in which they were, and the hop that they meet.
type trait struct {
	class int
	hop   api.Hop
}

// part parts the classes by what a router does.
func (f *flock) part(r api.Router) {
	numbers := map[trait]int{}
	for i, hop := range f.hops(r) {
		t := trait{f.class[i], hop}
		if _, is := numbers[t]; !is {
			numbers[t] = len(numbers)
		}
		f.class[i] = numbers[t]
	}
}

// hops tells what a right router does with each atom. It is asked only where one of its own routes begins or ends, since nothing else turns what it does: asking costs as much as it has routes.
func (f *flock) hops(r api.Router) iter.Seq2[int, api.Hop] {
	return func(yield func(int, api.Hop) bool) {
		turns := split(f.six, uncut(), routed(r)) // all of them are among the cuts, the first one too
		var hop api.Hop
		for i, a := range f.cuts {
			if len(turns) > 0 && turns[0] == a {
				hop, _ = fib.Hop(r, f.six, a)
				turns = turns[1:]
			}
			if !yield(i, hop) {
				return
			}
		}
	}
}

// rows answers each class as its row. Atoms of one class that are neighbours are one span of it.
func (f *flock) rows() ([][]api.Span, api.Errno) {
	var rows [][]api.Span
	ahead := -1
	for i, s := range spans(f.six, f.cuts) {
		class := f.class[i]
		if class == len(rows) {
			rows = append(rows, nil)
		}
		row := rows[class]
		switch {
		case class == ahead:
			row[len(row)-1].To = s.To
		case len(row) == api.MaxSpans:
			return nil, api.ErrLong
		default:
			rows[class] = append(row, s)
		}
		ahead = class
	}
	return rows, api.OK
}
