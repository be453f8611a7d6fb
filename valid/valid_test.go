package valid_test

import (
	"iter"
	"math"
	"math/rand"
	"runtime"
	"slices"
	"testing"

	"spoor/addr"
	"spoor/api"
	"spoor/ivl"
	"spoor/net"
	"spoor/past"
	"spoor/valid"
)

// The calls have the signatures of doc/25-valid.md.
var (
	_ func(api.Past, int, bool, api.Addr, api.Ivl) ([]api.Term, api.Errno)          = valid.Routes
	_ func(api.Past, int, bool, api.Addr, api.Ivl) ([]api.Held, api.Errno)          = valid.Hops
	_ func(api.Past, int, bool, api.Addr, api.Addr, api.Ivl) ([]api.Ivl, api.Errno) = valid.Same
)

// What follows is plain, by the document's words, which name past.At and net.Hop.

// at is the net at a time that is kept.
func at(t *testing.T, p api.Past, time int64) api.Net {
	t.Helper()
	n, why := past.At(p, time)
	if why != api.OK {
		t.Fatalf("At(%v, %d): error %d", p, time, why)
	}
	return n
}

// plainRoute is the route of the greatest Len that has an address, of all that a router has.
func plainRoute(n api.Net, router int, six bool, a api.Addr) (api.Route, bool) {
	longest, is := api.Route{}, false
	for _, r := range n.Routers {
		for _, x := range r.Routes {
			if r.Id == router && addr.Has(x.Prefix, six, a) && (!is || x.Prefix.Len > longest.Prefix.Len) {
				longest, is = x, true
			}
		}
	}
	return longest, is
}

func plainHop(t *testing.T, n api.Net, router int, six bool, a api.Addr) api.Hop {
	t.Helper()
	h, why := net.Hop(n, router, six, a)
	if why != api.OK {
		t.Fatalf("Hop(%v, %d, %t, %v): error %d", n, router, six, a, why)
	}
	return h
}

// looks are times of a window at which is looked, rising: all of them, if they are few; else its ends, and those about each event.
func looks(p api.Past, w api.Ivl) []int64 {
	var l []int64
	if w.To-w.From <= 100 {
		for time := w.From; time <= w.To; time++ {
			l = append(l, time)
		}
		return l
	}
	l = append(l, w.From, w.To)
	for _, e := range p.Events {
		for time := e.Time - 1; time <= e.Time+1; time++ {
			if w.From <= time && time <= w.To {
				l = append(l, time)
			}
		}
	}
	slices.Sort(l)
	return slices.Compact(l)
}

// look is a time that is looked at, and the net then.
type look struct {
	time int64
	net  api.Net
}

func lookAt(t *testing.T, p api.Past, w api.Ivl) []look {
	t.Helper()
	var l []look
	for _, time := range looks(p, w) {
		l = append(l, look{time, at(t, p, time)})
	}
	return l
}

// run is times in which one thing is.
type run[T comparable] struct {
	ivl api.Ivl
	is  T
}

// runs are what is at each time that is looked at, and up to the next one.
func runs[T comparable](nets []look, is func(api.Net) T) []run[T] {
	var l []run[T]
	for _, x := range nets {
		now := is(x.net)
		if len(l) == 0 || l[len(l)-1].is != now {
			l = append(l, run[T]{api.Ivl{From: x.time}, now})
		}
		l[len(l)-1].ivl.To = x.time
	}
	for i := range l[1:] {
		l[i].ivl.To = l[i+1].ivl.From - 1
	}
	return l
}

func plainRoutes(nets []look, router int, six bool, a api.Addr) []api.Term {
	type found struct {
		route api.Route
		is    bool
	}
	var l []api.Term
	for _, r := range runs(nets, func(n api.Net) found { x, is := plainRoute(n, router, six, a); return found{x, is} }) {
		l = append(l, api.Term{Ivl: r.ivl, Is: r.is.is, Route: r.is.route})
	}
	return l
}

func plainHops(t *testing.T, nets []look, router int, six bool, a api.Addr) []api.Held {
	t.Helper()
	var l []api.Held
	for _, r := range runs(nets, func(n api.Net) api.Hop { return plainHop(t, n, router, six, a) }) {
		l = append(l, api.Held{Ivl: r.ivl, Hop: r.is})
	}
	return l
}

func plainSame(t *testing.T, nets []look, router int, six bool, a, b api.Addr) []api.Ivl {
	t.Helper()
	is := func(n api.Net) bool {
		return plainHop(t, n, router, six, a) == plainHop(t, n, router, six, b)
	}
	var l []api.Ivl
	for _, r := range runs(nets, is) {
		if r.is {
			l = append(l, r.ivl)
		}
	}
	return l
}

// asPlain holds all calls of what is right against the plain forms.
func asPlain(t *testing.T, p api.Past, router int, six bool, a, b api.Addr, w api.Ivl) {
	t.Helper()
	nets := lookAt(t, p, w)
	terms, hops, row := plainRoutes(nets, router, six, a), plainHops(t, nets, router, six, a), plainSame(t, nets, router, six, a, b)
	if l, why := valid.Routes(p, router, six, a, w); !slices.Equal(l, terms) || why != api.OK {
		t.Fatalf("Routes(%v, %d, %t, %v, %v): %v, error %d, not %v", p, router, six, a, w, l, why, terms)
	}
	if l, why := valid.Hops(p, router, six, a, w); !slices.Equal(l, hops) || why != api.OK {
		t.Fatalf("Hops(%v, %d, %t, %v, %v): %v, error %d, not %v", p, router, six, a, w, l, why, hops)
	}
	if l, why := valid.Same(p, router, six, a, b, w); !slices.Equal(l, row) || why != api.OK {
		t.Fatalf("Same(%v, %d, %t, %v, %v, %v): %v, error %d, not %v", p, router, six, a, b, w, l, why, row)
	}
}

// refused asks all calls for an error, and for zeros beside it.
func refused(t *testing.T, p api.Past, router int, six bool, a, b api.Addr, w api.Ivl, want api.Errno) {
	t.Helper()
	if l, why := valid.Routes(p, router, six, a, w); len(l) != 0 || why != want {
		t.Errorf("Routes(%v, %d, %t, %v, %v): %v, error %d, not %d", p, router, six, a, w, l, why, want)
	}
	if l, why := valid.Hops(p, router, six, a, w); len(l) != 0 || why != want {
		t.Errorf("Hops(%v, %d, %t, %v, %v): %v, error %d, not %d", p, router, six, a, w, l, why, want)
	}
	if l, why := valid.Same(p, router, six, a, b, w); len(l) != 0 || why != want {
		t.Errorf("Same(%v, %d, %t, %v, %v, %v): %v, error %d, not %d", p, router, six, a, b, w, l, why, want)
	}
}

// Samples.

var (
	deliver = api.Action{Kind: api.ActionDeliver}
	discard = api.Action{Kind: api.ActionDiscard}
	by3     = api.Action{Kind: api.ActionForward, Iface: 3}
	by4     = api.Action{Kind: api.ActionForward, Iface: 4}
	actions = []api.Action{deliver, discard, by3, by4, {Kind: api.ActionForward, Iface: 5}}
	all4    = api.Prefix{}
	all6    = api.Prefix{Six: true}
	ten     = api.Prefix{Addr: api.Addr{Lo: 10 << 24}, Len: 8}
	tenOne  = api.Prefix{Addr: api.Addr{Lo: 10<<24 + 1<<16}, Len: 16}
	inTen   = api.Addr{Lo: 10<<24 + 2<<16}
	inOne   = api.Addr{Lo: 10<<24 + 1<<16 + 7}
	far     = api.Addr{Lo: 11 << 24}
	last4   = api.Addr{Lo: math.MaxUint32}
	last6   = api.Addr{Hi: math.MaxUint64, Lo: math.MaxUint64}
	kinds   = []bool{false, true}

	none      = api.Hop{}
	delivered = api.Hop{Kind: api.HopDeliver}
	discarded = api.Hop{Kind: api.HopDiscard}

	// somePrefixes are of both kinds, at their edges, and of addresses within one another.
	somePrefixes = []api.Prefix{
		all4, all6, ten, {Six: true, Addr: api.Addr{Lo: 10 << 24}, Len: 104}, tenOne, {Addr: inOne, Len: 32},
		{Six: true, Addr: api.Addr{Hi: 1 << 63}, Len: 1}, {Six: true, Addr: last6, Len: 128}, {Addr: last4, Len: 32}, {Addr: api.Addr{Lo: 1 << 31}, Len: 1},
	}

	wrongAddrs   = []api.Addr{{Lo: 1 << 32}, {Hi: 1}, {Lo: math.MaxUint64}, last6} // none of IPv4
	wrongRouters = []int{-1, -2, math.MinInt, api.MaxId + 1, api.MaxId + 2, math.MaxInt}
	wrongIvls    = []api.Ivl{
		{From: 3, To: 2}, {From: -1, To: 5}, {From: 20, To: api.MaxTime + 1}, {From: api.MaxTime + 1, To: api.MaxTime + 1}, {From: api.MaxTime, To: 20},
		{From: math.MinInt64, To: math.MaxInt64}, {From: math.MaxInt64, To: math.MinInt64}, {From: -3, To: -2}, {From: -1, To: -1}, {From: 8, To: math.MaxInt64},
	}
)

// addrs are right ones of a kind, at the edges of somePrefixes.
func addrs(six bool) []api.Addr {
	l := []api.Addr{{}, {Lo: 10 << 24}, inTen, inOne, far, {Lo: 1 << 31}, last4}
	if six {
		l = append(l, api.Addr{Hi: 1}, api.Addr{Hi: 1 << 63}, last6)
	}
	return l
}

func from(a, b int64) api.Ivl { return api.Ivl{From: a, To: b} }

// story is a past by what happened, in the order in which it was taken; it numbers events by itself.
type story struct {
	api.Past
	seqs map[int]uint64
}

func told() *story { return &story{api.Past{Horizon: -1}, map[int]uint64{}} }

func (s *story) happens(e api.Event) *story {
	s.seqs[e.Router]++
	e.Seq = s.seqs[e.Router]
	s.Events = append(s.Events, e)
	return s
}

func (s *story) up(time int64, router int) *story {
	return s.happens(api.Event{Kind: api.EventUp, Router: router, Time: time})
}

func (s *story) down(time int64, router int) *story {
	return s.happens(api.Event{Kind: api.EventDown, Router: router, Time: time})
}

func (s *story) add(time int64, router int, p api.Prefix, a api.Action) *story {
	return s.happens(api.Event{Kind: api.EventAdd, Router: router, Time: time, Prefix: p, Action: a})
}

func (s *story) withdraw(time int64, router int, p api.Prefix) *story {
	return s.happens(api.Event{Kind: api.EventWithdraw, Router: router, Time: time, Prefix: p})
}

func (s *story) linkUp(time int64, router, iface, peer int) *story {
	return s.happens(api.Event{Kind: api.EventLinkUp, Router: router, Time: time, Iface: iface, Peer: peer})
}

func (s *story) linkDown(time int64, router, iface int) *story {
	return s.happens(api.Event{Kind: api.EventLinkDown, Router: router, Time: time, Iface: iface})
}

// visit is the past of the document's example: a route that is there from 5 to 7.
func visit() api.Past {
	return told().up(2, 4).add(5, 4, all4, deliver).withdraw(8, 4, all4).Past
}

// retained is a past of which all ahead of a time is forgotten.
func retained(p api.Past, time int64) api.Past {
	q, _ := past.Retain(p, time)
	return q
}

// flicker is a past of as many events as there may be, each at a time of its own from 1 on: 4's route for all goes, and comes again. It is there at the horizon 0.
func flicker() api.Past {
	n := api.Net{
		Seats:   []api.Seat{{Router: 4, Seq: 1, Up: true}},
		Routers: []api.Router{{Id: 4, Up: true, Routes: []api.Route{{Prefix: all4, Action: deliver}}}},
	}
	s := &story{api.Past{Base: n}, map[int]uint64{4: 1}}
	for i := range int64(api.MaxEvents) {
		if i%2 == 0 {
			s.withdraw(i+1, 4, all4)
		} else {
			s.add(i+1, 4, all4, deliver)
		}
	}
	return s.Past
}

// wrongs are pasts that are not right.
func wrongs() []api.Past {
	late, twice := retained(visit(), 6), visit()
	late.Horizon = 1
	twice.Events[1].Seq = 1
	more := flicker()
	more.Events = append(more.Events, api.Event{Kind: api.EventDown, Router: 4, Seq: 1026, Time: 2000})
	return []api.Past{
		{Horizon: -2}, {Horizon: api.MaxTime + 1}, {Horizon: math.MinInt64}, late, twice, more,
		{Horizon: -1, Events: visit().Events[1:]},
		{Base: api.Net{Seats: make([]api.Seat, 1)}}, {Base: api.Net{Routers: make([]api.Router, 1)}},
		{Horizon: -1, Events: make([]api.Event, 1<<16)},
	}
}

var someRouters = []int{0, 3, 6, api.MaxId}

// somePast is a right past by chance, of a few routers, each of which has times of its own; now and then of something that was retained.
func somePast(t *testing.T, r *rand.Rand, many int) api.Past {
	t.Helper()
	s, times, ups := told(), [4]int64{}, [4]bool{}
	for range many {
		i := r.Intn(4)
		times[i] += int64(r.Intn(3))
		time, router, p := times[i], someRouters[i], somePrefixes[min(r.Intn(len(somePrefixes)), r.Intn(len(somePrefixes)))]
		switch {
		case !ups[i]:
			s.up(time, router)
			ups[i] = true
		case r.Intn(20) == 0:
			s.down(time, router)
			ups[i] = false
		case r.Intn(4) == 0:
			s.withdraw(time, router, p)
		case r.Intn(8) == 0:
			s.linkDown(time, router, 3+r.Intn(3))
		case r.Intn(4) == 0:
			s.linkUp(time, router, 3+r.Intn(3), someRouters[r.Intn(4)])
		default:
			s.add(time, router, p, actions[r.Intn(5)])
		}
	}
	p := s.Past
	if r.Intn(2) == 0 {
		p = retained(p, int64(r.Intn(8)))
	}
	if why := past.Check(p); why != api.OK {
		t.Fatalf("%v: error %d", p, why)
	}
	return p
}

// someWindow is one that is kept, about the times of somePast.
func someWindow(r *rand.Rand, p api.Past) api.Ivl {
	a := max(p.Horizon, 0) + int64(r.Intn(6))
	if r.Intn(4) == 0 {
		return from(a, api.MaxTime-int64(r.Intn(2)))
	}
	return from(a, a+int64(r.Intn(50)))
}

// someRouter is now and then one that nobody knows.
func someRouter(r *rand.Rand) int {
	if r.Intn(12) == 0 {
		return 5
	}
	return someRouters[r.Intn(4)]
}

// asked is what is asked of a window.
type asked struct {
	p      api.Past
	router int
	six    bool
	a, b   api.Addr
	w      api.Ivl
}

// eachAsked tells things that are asked of pasts by chance.
func eachAsked(t *testing.T, seed int64, many int) iter.Seq[asked] {
	return func(yield func(asked) bool) {
		r := rand.New(rand.NewSource(seed))
		for range many {
			x := asked{p: somePast(t, r, r.Intn(100)), router: someRouter(r), six: r.Intn(2) == 0}
			l := addrs(x.six)
			x.a, x.b, x.w = l[r.Intn(len(l))], l[r.Intn(len(l))], someWindow(r, x.p)
			if !yield(x) {
				return
			}
		}
	}
}

// 25.1

func TestExample(t *testing.T) {
	l, why := valid.Routes(visit(), 4, false, api.Addr{}, from(0, 9))
	want := []api.Term{{Ivl: from(0, 4)}, {Ivl: from(5, 7), Is: true, Route: api.Route{Prefix: all4, Action: deliver}}, {Ivl: from(8, 9)}}
	if !slices.Equal(l, want) || why != api.OK {
		t.Errorf("%v, error %d", l, why)
	}
}

func was(a, b int64, p api.Prefix, does api.Action) api.Term {
	return api.Term{Ivl: from(a, b), Is: true, Route: api.Route{Prefix: p, Action: does}}
}

func nothing(a, b int64) api.Term { return api.Term{Ivl: from(a, b)} }

func held(a, b int64, h api.Hop) api.Held { return api.Held{Ivl: from(a, b), Hop: h} }

func to(peer int) api.Hop { return api.Hop{Kind: api.HopTo, Peer: peer} }

// hand is what is told of a window by hand.
type hand struct {
	say    string
	p      api.Past
	router int
	six    bool
	a      api.Addr
	w      api.Ivl
	terms  []api.Term
	hops   []api.Held
}

// handsOfRoutes are of what comes and goes of a router's routes.
func handsOfRoutes() []hand {
	return []hand{
		{say: "nothing was ever", p: past.Make(), router: 4, w: from(0, api.MaxTime), terms: []api.Term{nothing(0, api.MaxTime)}, hops: []api.Held{held(0, api.MaxTime, none)}},
		{say: "one time", p: visit(), router: 4, w: from(5, 5), terms: []api.Term{was(5, 5, all4, deliver)}, hops: []api.Held{held(5, 5, delivered)}},
		{say: "another router", p: visit(), router: 5, w: from(0, 9), terms: []api.Term{nothing(0, 9)}, hops: []api.Held{held(0, 9, none)}},
		{say: "the other kind", p: visit(), router: 4, six: true, w: from(0, 9), terms: []api.Term{nothing(0, 9)}, hops: []api.Held{held(0, 9, none)}},
		{say: "from its beginning", p: visit(), router: 4, a: last4, w: from(5, 8), terms: []api.Term{was(5, 7, all4, deliver), nothing(8, 8)}, hops: []api.Held{held(5, 7, delivered), held(8, 8, none)}},
		{say: "to its end", p: visit(), router: 4, w: from(4, 7), terms: []api.Term{nothing(4, 4), was(5, 7, all4, deliver)}, hops: []api.Held{held(4, 4, none), held(5, 7, delivered)}},
		{say: "amid it", p: visit(), router: 4, w: from(6, 7), terms: []api.Term{was(6, 7, all4, deliver)}, hops: []api.Held{held(6, 7, delivered)}},
		{say: "ahead of it", p: visit(), router: 4, w: from(0, 4), terms: []api.Term{nothing(0, 4)}, hops: []api.Held{held(0, 4, none)}},
		{say: "from the horizon on", p: retained(visit(), 6), router: 4, w: from(6, 9), terms: []api.Term{was(6, 7, all4, deliver), nothing(8, 9)}, hops: []api.Held{held(6, 7, delivered), held(8, 9, none)}},
		{say: "at the greatest time", p: told().up(api.MaxTime, 4).add(api.MaxTime, 4, all4, deliver).Past, router: 4, w: from(0, api.MaxTime),
			terms: []api.Term{nothing(0, api.MaxTime-1), was(api.MaxTime, api.MaxTime, all4, deliver)}, hops: []api.Held{held(0, api.MaxTime-1, none), held(api.MaxTime, api.MaxTime, delivered)}},
		{say: "at the least time", p: told().up(0, 0).add(0, 0, all6, discard).down(1, 0).Past, router: 0, six: true, a: last6, w: from(0, 3),
			terms: []api.Term{was(0, 0, all6, discard), nothing(1, 3)}, hops: []api.Held{held(0, 0, discarded), held(1, 3, none)}},
		{say: "it does something else", p: told().up(2, 4).add(3, 4, ten, deliver).add(6, 4, ten, discard).add(7, 4, ten, discard).Past, router: 4, a: inTen, w: from(0, 9),
			terms: []api.Term{nothing(0, 2), was(3, 5, ten, deliver), was(6, 9, ten, discard)}, hops: []api.Held{held(0, 2, none), held(3, 5, delivered), held(6, 9, discarded)}},
		{say: "a longer one comes and goes", p: told().up(0, 4).add(0, 4, ten, deliver).add(4, 4, tenOne, discard).withdraw(7, 4, tenOne).withdraw(8, 4, ten).Past, router: 4, a: inOne, w: from(0, 9),
			terms: []api.Term{was(0, 3, ten, deliver), was(4, 6, tenOne, discard), was(7, 7, ten, deliver), nothing(8, 9)}, hops: []api.Held{held(0, 3, delivered), held(4, 6, discarded), held(7, 7, delivered), held(8, 9, none)}},
		{say: "a longer one that has it not", p: told().up(0, 4).add(0, 4, ten, deliver).add(4, 4, tenOne, discard).Past, router: 4, a: inTen, w: from(0, 9),
			terms: []api.Term{was(0, 9, ten, deliver)}, hops: []api.Held{held(0, 9, delivered)}},
		{say: "a longer one that does the same", p: told().up(0, 4).add(0, 4, ten, deliver).add(4, 4, tenOne, deliver).Past, router: 4, a: inOne, w: from(0, 9),
			terms: []api.Term{was(0, 3, ten, deliver), was(4, 9, tenOne, deliver)}, hops: []api.Held{held(0, 9, delivered)}},
		{say: "gone and there again at one time", p: told().up(0, 4).add(0, 4, ten, deliver).withdraw(4, 4, ten).add(4, 4, ten, deliver).Past, router: 4, a: inTen, w: from(0, 9),
			terms: []api.Term{was(0, 9, ten, deliver)}, hops: []api.Held{held(0, 9, delivered)}},
	}
}

// handsOfRest are of what comes and goes of sessions and links, and of events that were told later.
func handsOfRest() []hand {
	return []hand{
		{say: "the session ends and begins", p: told().up(0, 4).add(1, 4, ten, deliver).down(4, 4).up(6, 4).add(8, 4, ten, deliver).Past, router: 4, a: inTen, w: from(1, 9),
			terms: []api.Term{was(1, 3, ten, deliver), nothing(4, 7), was(8, 9, ten, deliver)}, hops: []api.Held{held(1, 3, delivered), held(4, 7, none), held(8, 9, delivered)}},
		{say: "the session anew at one time", p: told().up(0, 4).add(1, 4, ten, deliver).down(4, 4).up(4, 4).add(4, 4, ten, deliver).Past, router: 4, a: inTen, w: from(1, 9),
			terms: []api.Term{was(1, 9, ten, deliver)}, hops: []api.Held{held(1, 9, delivered)}},
		{say: "a link comes and goes", p: told().up(0, 4).add(1, 4, ten, by3).linkUp(3, 4, 3, 7).linkUp(5, 4, 3, 8).linkUp(6, 4, 4, 9).linkDown(8, 4, 3).Past, router: 4, a: inTen, w: from(1, 9),
			terms: []api.Term{was(1, 9, ten, by3)}, hops: []api.Held{held(1, 2, none), held(3, 4, to(7)), held(5, 7, to(8)), held(8, 9, none)}},
		{say: "unlike links to one router", p: told().up(0, 4).linkUp(0, 4, 3, 0).linkUp(0, 4, 4, 0).add(1, 4, ten, by3).add(5, 4, ten, by4).Past, router: 4, a: inTen, w: from(1, 9),
			terms: []api.Term{was(1, 4, ten, by3), was(5, 9, ten, by4)}, hops: []api.Held{held(1, 9, to(0))}},
		{say: "told later", p: told().up(6, 4).add(7, 4, ten, deliver).up(2, 9).add(3, 9, ten, discard).withdraw(9, 4, ten).withdraw(5, 9, ten).Past, router: 9, a: inTen, w: from(0, 9),
			terms: []api.Term{nothing(0, 2), was(3, 4, ten, discard), nothing(5, 9)}, hops: []api.Held{held(0, 2, none), held(3, 4, discarded), held(5, 9, none)}},
		{say: "others' events", p: told().up(2, 4).add(2, 4, ten, deliver).up(3, 9).add(4, 9, ten, discard).down(5, 9).Past, router: 4, a: inTen, w: from(2, 9),
			terms: []api.Term{was(2, 9, ten, deliver)}, hops: []api.Held{held(2, 9, delivered)}},
		{say: "told later, at one time", p: told().up(5, 4).up(5, 9).add(5, 9, ten, discard).add(5, 4, ten, deliver).add(5, 4, tenOne, discard).Past, router: 4, a: inOne, w: from(4, 6),
			terms: []api.Term{nothing(4, 4), was(5, 6, tenOne, discard)}, hops: []api.Held{held(4, 4, none), held(5, 6, discarded)}},
	}
}

func byHand() []hand { return slices.Concat(handsOfRoutes(), handsOfRest()) }

func TestByHand(t *testing.T) {
	for _, c := range byHand() {
		if why := past.Check(c.p); why != api.OK {
			t.Fatalf("%s: the past is not right", c.say)
		}
		if l, why := valid.Routes(c.p, c.router, c.six, c.a, c.w); !slices.Equal(l, c.terms) || why != api.OK {
			t.Errorf("%s: Routes %v, error %d, not %v", c.say, l, why, c.terms)
		}
		if l, why := valid.Hops(c.p, c.router, c.six, c.a, c.w); !slices.Equal(l, c.hops) || why != api.OK {
			t.Errorf("%s: Hops %v, error %d, not %v", c.say, l, why, c.hops)
		}
		if l, why := valid.Same(c.p, c.router, c.six, c.a, c.a, c.w); !slices.Equal(l, []api.Ivl{c.w}) || why != api.OK {
			t.Errorf("%s: Same of one address %v, error %d", c.say, l, why)
		}
		asPlain(t, c.p, c.router, c.six, c.a, last4, c.w)
	}
}

func TestByTheWords(t *testing.T) {
	for x := range eachAsked(t, 251, 500) {
		asPlain(t, x.p, x.router, x.six, x.a, x.b, x.w)
	}
}

func TestWrongThingsAreRefused(t *testing.T) {
	w := from(0, 9)
	for _, p := range wrongs() {
		refused(t, p, 4, false, api.Addr{}, api.Addr{}, w, api.ErrForm)
	}
	for _, a := range wrongAddrs {
		refused(t, visit(), 4, false, a, api.Addr{}, w, api.ErrForm)
	}
	for _, router := range wrongRouters {
		refused(t, visit(), router, false, api.Addr{}, api.Addr{}, w, api.ErrRange)
		refused(t, past.Make(), router, true, last6, last6, w, api.ErrRange)
	}
	for _, wrong := range wrongIvls {
		refused(t, visit(), 4, false, api.Addr{}, api.Addr{}, wrong, api.ErrRange)
		refused(t, past.Make(), 4, true, last6, last6, wrong, api.ErrRange)
	}
	for _, horizon := range []int64{1, 6, 9, 10, api.MaxTime} {
		for _, a := range []int64{0, horizon / 2, horizon - 1} {
			refused(t, retained(visit(), horizon), 4, false, api.Addr{}, api.Addr{}, from(a, api.MaxTime), api.ErrExpired)
			refused(t, api.Past{Horizon: horizon}, 0, true, last6, last6, from(a, a), api.ErrExpired)
		}
		asPlain(t, retained(visit(), horizon), 4, false, api.Addr{}, last4, from(horizon, api.MaxTime))
		asPlain(t, retained(visit(), horizon), 4, false, api.Addr{}, last4, from(horizon, horizon))
	}
	for _, router := range []int{0, api.MaxId} {
		asPlain(t, visit(), router, true, last6, api.Addr{}, w)
	}
}

// Where several errors apply, the answer is the one that the chapter names first.
func TestTheFirstErrorIsTold(t *testing.T) {
	w, old, wrong := from(0, 9), retained(visit(), 6), from(7, 6)
	for _, p := range wrongs() {
		for _, router := range []int{4, -1} {
			refused(t, p, router, false, last6, last6, wrong, api.ErrForm)
			refused(t, p, router, true, last6, last6, wrong, api.ErrForm)
		}
	}
	for _, router := range []int{4, -1, api.MaxId + 1} {
		for _, i := range []api.Ivl{w, wrong, from(0, math.MaxInt64)} {
			refused(t, old, router, false, last6, api.Addr{}, i, api.ErrForm)
		}
	}
	for _, i := range []api.Ivl{w, wrong, from(5, 5), from(6, 5), from(8, 9)} {
		refused(t, old, -1, false, api.Addr{}, api.Addr{}, i, api.ErrRange)
	}
	for _, router := range []int{4, -1} {
		refused(t, old, router, false, api.Addr{}, api.Addr{}, from(5, 4), api.ErrRange)
		refused(t, old, router, false, api.Addr{}, api.Addr{}, from(0, api.MaxTime+1), api.ErrRange)
	}
}

// 25.2

func TestSameByHand(t *testing.T) {
	parted := told().up(0, 4).add(0, 4, ten, deliver).add(3, 4, tenOne, discard).add(5, 4, tenOne, deliver).withdraw(7, 4, ten).add(8, 4, ten, by3).add(8, 4, tenOne, by4).linkUp(9, 4, 3, 7).linkUp(11, 4, 4, 7).linkUp(12, 4, 4, 8).Past
	for _, c := range []struct {
		say    string
		p      api.Past
		router int
		six    bool
		a, b   api.Addr
		w      api.Ivl
		row    []api.Ivl
	}{
		{"unlike by turns", parted, 4, false, inTen, inOne, from(0, 13), []api.Ivl{from(0, 2), from(5, 6), from(8, 8), from(11, 11)}},
		{"a part of it", parted, 4, false, inTen, inOne, from(2, 5), []api.Ivl{from(2, 2), from(5, 5)}},
		{"never", parted, 4, false, inTen, inOne, from(3, 4), nil},
		{"one that is not there", parted, 5, false, inTen, inOne, from(0, 13), []api.Ivl{from(0, 13)}},
		{"the other kind", parted, 4, true, inTen, inOne, from(0, 13), []api.Ivl{from(0, 13)}},
		{"both lost now and then", parted, 4, false, far, inOne, from(0, 20), []api.Ivl{from(8, 10)}},
		{"from the beginning of all times", visit(), 4, false, api.Addr{}, last4, from(0, api.MaxTime), []api.Ivl{from(0, api.MaxTime)}},
		{"to the end of all times", told().up(api.MaxTime-1, 4).add(api.MaxTime-1, 4, ten, deliver).add(api.MaxTime, 4, all4, deliver).Past, 4, false, inTen, far, from(0, api.MaxTime), []api.Ivl{from(0, api.MaxTime-2), from(api.MaxTime, api.MaxTime)}},
	} {
		if past.Check(c.p) != api.OK {
			t.Fatalf("%s: the past is not right", c.say)
		}
		if l, why := valid.Same(c.p, c.router, c.six, c.a, c.b, c.w); !slices.Equal(l, c.row) && (len(l) > 0 || len(c.row) > 0) || why != api.OK {
			t.Errorf("%s: %v, error %d, not %v", c.say, l, why, c.row)
		}
		if l, why := valid.Same(c.p, c.router, c.six, c.b, c.a, c.w); len(l) != len(c.row) || why != api.OK {
			t.Errorf("%s: turned round %v, error %d, not %v", c.say, l, why, c.row)
		}
		asPlain(t, c.p, c.router, c.six, c.a, c.b, c.w)
	}
}

func TestSameOfAWrongSecondAddress(t *testing.T) {
	old := retained(visit(), 6)
	for _, b := range wrongAddrs {
		for _, p := range append(wrongs(), visit(), old) {
			for _, router := range []int{4, -1} {
				for _, w := range []api.Ivl{from(0, 9), from(7, 9), from(3, 2)} {
					if l, why := valid.Same(p, router, false, api.Addr{}, b, w); len(l) != 0 || why != api.ErrForm {
						t.Errorf("Same(%v, %d, 0, %v, %v): %v, error %d", p, router, b, w, l, why)
					}
				}
			}
		}
	}
	if l, why := valid.Same(visit(), 4, true, last6, api.Addr{Hi: 1}, from(0, 9)); !slices.Equal(l, []api.Ivl{from(0, 9)}) || why != api.OK {
		t.Errorf("of IPv6: %v, error %d", l, why)
	}
}

func TestSameIsARow(t *testing.T) {
	rows := 0
	for x := range eachAsked(t, 252, 500) {
		l, why := valid.Same(x.p, x.router, x.six, x.a, x.b, x.w)
		if why != api.OK || ivl.Check(l) != api.OK {
			t.Fatalf("Same: %v, error %d", l, why)
		}
		if len(l) > 1 {
			rows++
		}
	}
	if rows < 20 {
		t.Errorf("only %d rows have several intervals", rows)
	}
}

// 25.3

// roomy is a list with room behind it, which is anyone's.
func roomy[T any](l []T) []T {
	return append(slices.Clone(l), make([]T, 4)...)[:len(l)]
}

// roomyPast is the same past, with room behind all its lists.
func roomyPast(p api.Past) api.Past {
	p.Base.Seats, p.Base.Routers, p.Events = roomy(p.Base.Seats), roomy(p.Base.Routers), roomy(p.Events)
	for i, r := range p.Base.Routers {
		p.Base.Routers[i].Routes, p.Base.Routers[i].Links = roomy(r.Routes), roomy(r.Links)
	}
	return p
}

// sameList tells whether a list with room is what it was, the room behind it, too.
func sameList[T comparable](l, want []T) bool {
	var none T
	return slices.Equal(l, want) && !slices.ContainsFunc(l[:cap(l)][len(l):], func(x T) bool { return x != none })
}

// asItWas tells whether a past with room is a plain one still.
func asItWas(p, plain api.Past) bool {
	is := p.Horizon == plain.Horizon && sameList(p.Events, plain.Events) && sameList(p.Base.Seats, plain.Base.Seats) && len(p.Base.Routers) == len(plain.Base.Routers)
	for i, r := range p.Base.Routers {
		x := plain.Base.Routers[i]
		is = is && r.Id == x.Id && r.Up == x.Up && sameList(r.Routes, x.Routes) && sameList(r.Links, x.Links)
	}
	return is
}

// spoil turns all that a list has room for.
func spoil[T any](l []T, wrong T) {
	for i := range l[:cap(l)] {
		l[:cap(l)][i] = wrong
	}
}

func spoilPast(p api.Past) {
	for _, r := range p.Base.Routers {
		spoil(r.Routes, api.Route{Prefix: api.Prefix{Len: -7}})
		spoil(r.Links, api.Link{Iface: -7})
	}
	spoil(p.Base.Seats, api.Seat{Router: -7})
	spoil(p.Base.Routers, api.Router{Id: -7})
	spoil(p.Events, api.Event{Router: -7})
}

// freshly holds that a call answers new memory each time, that hangs on nothing that was handed in.
func freshly[T comparable](t *testing.T, say string, plain api.Past, wrong T, call func(api.Past) []T) {
	t.Helper()
	p := roomyPast(plain)
	l, other := call(p), call(p)
	want := slices.Clone(l)
	spoil(other, wrong)
	if !slices.Equal(l, want) || !asItWas(p, plain) {
		t.Fatalf("%s: answers share memory, or %v was turned", say, plain)
	}
	spoil(l, wrong)
	if !asItWas(p, plain) || !slices.Equal(call(p), want) {
		t.Fatalf("%s: the answer shares memory with %v, or is kept", say, plain)
	}
	l = call(p)
	spoilPast(p)
	if !slices.Equal(l, want) {
		t.Fatalf("%s: the answer shares memory with %v", say, plain)
	}
}

func TestAnswersAreNewMemory(t *testing.T) {
	hold := func(x asked) {
		freshly(t, "Routes", x.p, api.Term{Is: true}, func(p api.Past) []api.Term { l, _ := valid.Routes(p, x.router, x.six, x.a, x.w); return l })
		freshly(t, "Hops", x.p, api.Held{Hop: to(-7)}, func(p api.Past) []api.Held { l, _ := valid.Hops(p, x.router, x.six, x.a, x.w); return l })
		freshly(t, "Same", x.p, from(-7, -7), func(p api.Past) []api.Ivl { l, _ := valid.Same(p, x.router, x.six, x.a, x.b, x.w); return l })
	}
	for _, c := range byHand() {
		hold(asked{c.p, c.router, c.six, c.a, last4, c.w})
	}
	for x := range eachAsked(t, 253, 60) {
		hold(x)
	}
	for _, p := range wrongs() {
		hold(asked{p, 4, false, inTen, inOne, from(0, 9)})
	}
}

// 25.4

func TestAtEachTimeWhatIsThereThen(t *testing.T) {
	for x := range eachAsked(t, 254, 250) {
		terms, _ := valid.Routes(x.p, x.router, x.six, x.a, x.w)
		hops, _ := valid.Hops(x.p, x.router, x.six, x.a, x.w)
		row, _ := valid.Same(x.p, x.router, x.six, x.a, x.b, x.w)
		for _, look := range lookAt(t, x.p, x.w) {
			time, n := look.time, look.net
			route, is := plainRoute(n, x.router, x.six, x.a)
			term := terms[slices.IndexFunc(terms, func(e api.Term) bool { return e.Ivl.From <= time && time <= e.Ivl.To })]
			if term.Is != is || term.Route != route {
				t.Fatalf("of %v at %d: %v, not %t, %v", x, time, term, is, route)
			}
			h := hops[slices.IndexFunc(hops, func(e api.Held) bool { return e.Ivl.From <= time && time <= e.Ivl.To })]
			if now := plainHop(t, n, x.router, x.six, x.a); h.Hop != now {
				t.Fatalf("of %v at %d: %v, not %v", x, time, h, now)
			}
			same, why := ivl.Has(row, time)
			if now := plainHop(t, n, x.router, x.six, x.a) == plainHop(t, n, x.router, x.six, x.b); same != now || why != api.OK {
				t.Fatalf("of %v at %d: the same hop is %t", x, time, now)
			}
		}
	}
}

// whole holds that some intervals are a window together, one behind the other.
func whole(t *testing.T, w api.Ivl, l []api.Ivl) {
	t.Helper()
	next := w.From
	for _, i := range l {
		if i.From != next || i.To < i.From {
			t.Fatalf("%v of %v: not one behind the other", l, w)
		}
		next = i.To + 1
	}
	if next != w.To+1 {
		t.Fatalf("%v are not %v", l, w)
	}
}

func TestPiecesAreTheWindow(t *testing.T) {
	for x := range eachAsked(t, 2541, 300) {
		terms, _ := valid.Routes(x.p, x.router, x.six, x.a, x.w)
		hops, _ := valid.Hops(x.p, x.router, x.six, x.a, x.w)
		var of, in []api.Ivl
		for i, e := range terms {
			of = append(of, e.Ivl)
			if i > 0 && e.Is == terms[i-1].Is && e.Route == terms[i-1].Route {
				t.Fatalf("neighbours of %v are alike", terms)
			}
			if !e.Is && e.Route != (api.Route{}) {
				t.Fatalf("%v tells a route that is none", e)
			}
		}
		for i, e := range hops {
			in = append(in, e.Ivl)
			if i > 0 && e.Hop == hops[i-1].Hop {
				t.Fatalf("neighbours of %v are alike", hops)
			}
		}
		whole(t, x.w, of)
		whole(t, x.w, in)
	}
}

// 25.5

// common is the times that are in both of two intervals, if there are such.
func common(a, b api.Ivl) (api.Ivl, bool) {
	i := from(max(a.From, b.From), min(a.To, b.To))
	return i, i.From <= i.To
}

func TestOfAPart(t *testing.T) {
	r := rand.New(rand.NewSource(255))
	for x := range eachAsked(t, 2551, 250) {
		terms, _ := valid.Routes(x.p, x.router, x.six, x.a, x.w)
		hops, _ := valid.Hops(x.p, x.router, x.six, x.a, x.w)
		row, _ := valid.Same(x.p, x.router, x.six, x.a, x.b, x.w)
		for range 4 {
			a := x.w.From + r.Int63n(min(x.w.To-x.w.From+1, 20))
			part := from(a, a+r.Int63n(x.w.To-a+1))
			var some []api.Term
			for _, e := range terms {
				if i, is := common(e.Ivl, part); is {
					some = append(some, api.Term{Ivl: i, Is: e.Is, Route: e.Route})
				}
			}
			if l, why := valid.Routes(x.p, x.router, x.six, x.a, part); !slices.Equal(l, some) || why != api.OK {
				t.Fatalf("Routes of %v in %v: %v, error %d, not %v", x, part, l, why, some)
			}
			var held []api.Held
			for _, e := range hops {
				if i, is := common(e.Ivl, part); is {
					held = append(held, api.Held{Ivl: i, Hop: e.Hop})
				}
			}
			if l, why := valid.Hops(x.p, x.router, x.six, x.a, part); !slices.Equal(l, held) || why != api.OK {
				t.Fatalf("Hops of %v in %v: %v, error %d, not %v", x, part, l, why, held)
			}
			var times []api.Ivl
			for _, e := range row {
				if i, is := common(e, part); is {
					times = append(times, i)
				}
			}
			if l, why := valid.Same(x.p, x.router, x.six, x.a, x.b, part); !slices.Equal(l, times) || why != api.OK {
				t.Fatalf("Same of %v in %v: %v, error %d, not %v", x, part, l, why, times)
			}
		}
	}
}

// 25.6

func TestFewPieces(t *testing.T) {
	for x := range eachAsked(t, 256, 300) {
		times, why := past.Times(x.p, x.w)
		if why != api.OK {
			t.Fatalf("Times(%v, %v): error %d", x.p, x.w, why)
		}
		terms, _ := valid.Routes(x.p, x.router, x.six, x.a, x.w)
		hops, _ := valid.Hops(x.p, x.router, x.six, x.a, x.w)
		row, _ := valid.Same(x.p, x.router, x.six, x.a, x.b, x.w)
		if most := len(times) + 1; len(terms) > most || len(hops) > most || len(row) > most {
			t.Fatalf("of %v: %d, %d, %d, and there are %d times", x, len(terms), len(hops), len(row), most-1)
		}
	}
}

// There are as many pieces as there may be, one more than events are kept; no call says that this is too many.
func TestAsManyPiecesAsThereMayBe(t *testing.T) {
	p := flicker()
	if past.Check(p) != api.OK {
		t.Fatal("the past is not right")
	}
	for _, to := range []int64{api.MaxEvents - 1, api.MaxEvents, api.MaxEvents + 1, api.MaxTime} {
		w := from(0, to)
		want := int(min(to, api.MaxEvents)) + 1
		terms, why := valid.Routes(p, 4, false, far, w)
		if len(terms) != want || why != api.OK {
			t.Fatalf("Routes up to %d: %d, error %d", to, len(terms), why)
		}
		hops, why := valid.Hops(p, 4, false, far, w)
		if len(hops) != want || why != api.OK {
			t.Fatalf("Hops up to %d: %d, error %d", to, len(hops), why)
		}
		for i := range int64(want) {
			i := int(i)
			end := int64(i)
			if i == want-1 {
				end = to
			}
			term, hop := nothing(int64(i), end), held(int64(i), end, none)
			if i%2 == 0 {
				term, hop = was(int64(i), end, all4, deliver), held(int64(i), end, delivered)
			}
			if terms[i] != term || hops[i] != hop {
				t.Fatalf("piece %d: %v, %v", i, terms[i], hops[i])
			}
		}
	}
	if row, why := valid.Same(p, 5, false, far, inTen, from(0, 2000)); !slices.Equal(row, []api.Ivl{from(0, 2000)}) || why != api.OK {
		t.Errorf("Same at a router nobody knows: %v, error %d", row, why)
	}
}

// By turns a's hop is b's, as often as it may be.
func TestSameAsOftenAsMayBe(t *testing.T) {
	p := flicker()
	p.Base.Routers[0].Routes = []api.Route{{Prefix: ten, Action: deliver}}
	for i := range p.Events {
		p.Events[i].Prefix = ten
	}
	row, why := valid.Same(p, 4, false, inTen, far, from(0, 2000))
	if len(row) != api.MaxEvents/2 || why != api.OK || ivl.Check(row) != api.OK {
		t.Fatalf("%d intervals, error %d", len(row), why)
	}
	for i, x := range row {
		if at := int64(2*i + 1); x != from(at, at) {
			t.Fatalf("interval %d: %v", i, x)
		}
	}
}

// crowd is a past of as many routers as there may be, of as many events, and as heavy as it may be: each router's route comes and goes.
func crowd() api.Past {
	s := told()
	for id := range api.MaxRouters {
		s.up(1, id)
	}
	for i := 0; len(s.Events) < api.MaxEvents; i++ {
		id := i % api.MaxRouters
		if i/api.MaxRouters%2 == 0 {
			s.add(int64(i)+2, id, ten, deliver)
		} else {
			s.withdraw(int64(i)+2, id, ten)
		}
	}
	return s.Past
}

func TestManyRouters(t *testing.T) {
	p := crowd()
	if past.Check(p) != api.OK {
		t.Fatal("the past is not right")
	}
	for _, id := range []int{0, 1, 62, 63} {
		l, why := valid.Hops(p, id, false, inTen, from(0, api.MaxTime))
		if len(l) != 16 || why != api.OK {
			t.Fatalf("Hops of %d: %v, error %d", id, l, why)
		}
		for i, e := range l[1:] {
			if want := int64(id + 2 + i*api.MaxRouters); e.Ivl.From != want || (e.Hop == delivered) != (i%2 == 0) {
				t.Fatalf("Hops of %d: %v, not at %d", id, e, want)
			}
		}
	}
}

// What else the package has, for those above it.

func TestCheckSaysWhy(t *testing.T) {
	for _, c := range []struct {
		p      api.Past
		router int
		six    bool
		a      api.Addr
		w      api.Ivl
		want   api.Errno
	}{
		{visit(), 4, false, last4, from(0, 9), api.OK}, {visit(), api.MaxId, true, last6, from(0, api.MaxTime), api.OK},
		{visit(), 4, false, last6, from(0, 9), api.ErrForm}, {api.Past{Horizon: -2}, 4, false, last4, from(0, 9), api.ErrForm},
		{visit(), -1, false, last4, from(0, 9), api.ErrRange}, {visit(), 4, false, last4, from(9, 0), api.ErrRange}, {retained(visit(), 6), 4, false, last4, from(5, 9), api.ErrExpired},
	} {
		if why := valid.Check(c.p, c.router, c.six, c.a, c.w); why != c.want {
			t.Errorf("Check of %d, %t, %v, %v: error %d, not %d", c.router, c.six, c.a, c.w, why, c.want)
		}
	}
}

func sameNet(a, b api.Net) bool {
	return slices.Equal(a.Seats, b.Seats) && slices.EqualFunc(a.Routers, b.Routers, func(x, y api.Router) bool {
		return x.Id == y.Id && x.Up == y.Up && slices.Equal(x.Routes, y.Routes) && slices.Equal(x.Links, y.Links)
	})
}

func TestNetsAreThoseAtTheTimes(t *testing.T) {
	for x := range eachAsked(t, 257, 200) {
		times, _ := past.Times(x.p, x.w)
		times = slices.Insert(times, 0, x.w.From)
		for time, n := range valid.Nets(x.p, x.w) {
			if len(times) == 0 || time != times[0] || !sameNet(n, at(t, x.p, time)) {
				t.Fatalf("of %v: at %d %v", x, time, n)
			}
			times = times[1:]
		}
		if len(times) > 0 {
			t.Fatalf("of %v: no nets at %v", x, times)
		}
	}
}

func TestNetsMayBeLeftOff(t *testing.T) {
	for many := 1; many < 4; many++ {
		told := 0
		for range valid.Nets(visit(), from(0, 9)) {
			if told++; told == many {
				break
			}
		}
		if told != many {
			t.Errorf("%d nets, not %d", told, many)
		}
	}
}

func TestNoNetsOfWrongThings(t *testing.T) {
	none := func(p api.Past, w api.Ivl) {
		for time, n := range valid.Nets(p, w) {
			t.Errorf("of %v in %v: at %d %v", p, w, time, n)
		}
		if l := valid.Pieces(p, w, func(api.Net) int { return 7 }); len(l) != 0 {
			t.Errorf("of %v in %v: the pieces %v", p, w, l)
		}
	}
	for _, p := range wrongs() {
		none(p, from(0, 9))
	}
	for _, w := range wrongIvls {
		none(visit(), w)
	}
	none(retained(visit(), 6), from(5, 9))
}

// P1, P3, P4

func FuzzAnyNumbers(f *testing.F) {
	f.Add(int64(-1), uint8(3), int64(5), 8, uint64(10<<24), uint8(2), 3, uint8(4), int64(8), 4, false, uint64(0), uint64(10<<24), uint64(11<<24), int64(0), int64(9))
	f.Add(int64(6), uint8(3), int64(7), 0, uint64(0), uint8(1), 0, uint8(2), int64(7), 4, false, uint64(0), uint64(9), uint64(7), int64(6), int64(1<<40))
	f.Add(int64(1<<40), uint8(1), int64(-5), 40, uint64(1), uint8(9), -3, uint8(9), int64(math.MaxInt64), -1, true, uint64(math.MaxUint64), uint64(math.MaxUint64), uint64(1), int64(math.MinInt64), int64(math.MaxInt64))
	f.Add(int64(-1), uint8(5), int64(1<<40), 0, uint64(0), uint8(1), 1<<16, uint8(6), int64(1<<40), 1<<20, false, uint64(0), uint64(1<<32), uint64(1), int64(1<<40), int64(1<<40))
	f.Fuzz(func(t *testing.T, horizon int64, kind uint8, time int64, long int, lo uint64, action uint8, iface int, next uint8, then int64, router int, six bool, hi, addrLo, otherLo uint64, a, b int64) {
		p := api.Prefix{Six: six, Addr: api.Addr{Lo: lo}, Len: long}
		one := api.Event{Kind: api.EventKind(kind), Router: 4, Seq: 2, Time: time, Prefix: p, Action: api.Action{Kind: api.ActionKind(action), Iface: iface}}
		two := api.Event{Kind: api.EventKind(next), Router: 4, Seq: 3, Time: then, Iface: iface}
		up := api.Event{Kind: api.EventUp, Router: 4, Seq: 1, Time: max(horizon, 0) + 1}
		add := api.Event{Kind: api.EventAdd, Router: 4, Seq: 2, Time: time, Prefix: p, Action: one.Action}
		gone := api.Event{Kind: api.EventWithdraw, Router: 4, Seq: 3, Time: then, Prefix: p}
		x, y, w := api.Addr{Hi: hi, Lo: addrLo}, api.Addr{Hi: hi, Lo: otherLo}, from(a, b)
		for _, events := range [][]api.Event{nil, {up}, {one}, {up, one}, {up, one, two}, {up, add}, {up, add, gone}} {
			q := api.Past{Horizon: horizon, Events: events}
			switch {
			case past.Check(q) != api.OK || !addr.Right(six, x):
				refused(t, q, router, six, x, y, w, api.ErrForm)
			case !addr.Right(six, y):
				if l, why := valid.Same(q, router, six, x, y, w); len(l) != 0 || why != api.ErrForm {
					t.Fatalf("Same: %v, error %d", l, why)
				}
			case a < 0 || a > b || b > 1<<40 || router < 0 || router > 1<<20:
				refused(t, q, router, six, x, y, w, api.ErrRange)
			case a < horizon:
				refused(t, q, router, six, x, y, w, api.ErrExpired)
			default:
				asPlain(t, q, router, six, x, y, w)
			}
		}
	})
}

func TestAnswersHangOnArgumentsAlone(t *testing.T) {
	for _, c := range byHand() {
		for range 3 {
			valid.Routes(visit(), 4, false, api.Addr{}, from(0, 9))
			p := roomyPast(c.p)
			terms, why := valid.Routes(p, c.router, c.six, c.a, c.w)
			if !slices.Equal(terms, c.terms) || why != api.OK {
				t.Fatalf("%s: Routes turned: %v, error %d", c.say, terms, why)
			}
			hops, why := valid.Hops(p, c.router, c.six, c.a, c.w)
			if !slices.Equal(hops, c.hops) || why != api.OK {
				t.Fatalf("%s: Hops turned: %v, error %d", c.say, hops, why)
			}
		}
	}
	for _, p := range []api.Past{{Horizon: -1, Events: []api.Event{}}, {Horizon: -1, Base: api.Net{Seats: []api.Seat{}, Routers: make([]api.Router, 0, 9)}, Events: make([]api.Event, 0, 9)}} {
		asPlain(t, p, 4, false, inTen, inOne, from(0, 9))
	}
}

func TestNoGoroutineIsLeft(t *testing.T) {
	before := runtime.NumGoroutine()
	for _, p := range append(wrongs(), visit(), flicker()) {
		for _, six := range kinds {
			valid.Routes(p, 4, six, inTen, from(0, 2000))
			valid.Hops(p, 4, six, inTen, from(0, 2000))
			valid.Same(p, 4, six, inTen, inOne, from(0, 2000))
		}
	}
	if after := runtime.NumGoroutine(); after > before {
		t.Errorf("%d goroutines, and %d ahead of the calls", after, before)
	}
}
