package valid

import (
	"iter"

	"spoor/api"
	"spoor/net"
	"spoor/past"
)

// Piece is times of a window in which one thing holds, unlike what holds right ahead of them, and right behind them.
type Piece[T comparable] struct {
	Ivl   api.Ivl
	Holds T
}

// Pieces answers the pieces of a window by what tell tells of each net; none, if past.Times refuses the window.
func Pieces[T comparable](p api.Past, w api.Ivl, tell func(api.Net) T) []Piece[T] {
	var l []Piece[T]
	for from, n := range Nets(p, w) {
		holds := tell(n)
		last := len(l) - 1
		if last >= 0 && l[last].Holds == holds {
			continue
		}
		if last >= 0 {
			l[last].Ivl.To = from - 1
		}
		l = append(l, Piece[T]{api.Ivl{From: from, To: w.To}, holds})
	}
	return l
}

// Nets tells the nets of a window, in order, each with the first time of the window at which it is there; none, if past.Times refuses the window.
func Nets(p api.Past, w api.Ivl) iter.Seq2[int64, api.Net] {
	return func(yield func(int64, api.Net) bool) {
		times, why := past.Times(p, w)
		if why != api.OK {
			return
		}
		n, _ := past.At(p, w.From)
		if !yield(w.From, n) {
			return
		}
		for _, t := range times {
			n = next(n, p, t)
			if !yield(t, n) {
				return
			}
		}
	}
}

// next answers the net at a time from the one right ahead of it, since making it from the past's Base would cost all events each time. That events were taken in another order than their times' is no matter: those of a router are in order both ways, and with those of others there is room, since a past is not too heavy.
func next(n api.Net, p api.Past, t int64) api.Net {
	var now []api.Event
	for _, e := range p.Events {
		if e.Time == t {
			now = append(now, e)
		}
	}
	n, _, _ = net.All(n, now, p.Horizon)
	return n
}
