package window_test

import (
	"iter"
	"math"
	"math/rand"
	"runtime"
	"slices"
	"testing"

	"spoor/addr"
	"spoor/api"
	"spoor/atoms"
	"spoor/ivl"
	"spoor/line"
	"spoor/net"
	"spoor/past"
	"spoor/window"
)

// The calls have the signatures of doc/26-window.md.
var (
	_ func(api.Past, int, bool, api.Addr, api.Ivl) ([]api.Era, api.Errno)                  = window.Verdicts
	_ func(api.Past, int, bool, api.Addr, int64) ([]int, api.Verdict, api.Errno)           = window.Trace
	_ func(api.Past, int, bool, api.Addr, api.Ivl, api.VerdictKind) ([]api.Ivl, api.Errno) = window.Ever
	_ func(api.Past, int, bool, api.Addr, api.Ivl) ([]api.Event, api.Errno)                = window.Causes
)

// What follows is plain, by the document's words, which name past.At and net.Hop.

// at is the net at a time that is kept.
func at(t *testing.T, p api.Past, time int64) api.Net {
	t.Helper()
	n, why := past.At(p, time)
	if why != api.OK {
		t.Fatalf("At(%v, %d): error %d", p, time, why)
	}
	return n
}

func hop(t *testing.T, n api.Net, router int, six bool, a api.Addr) api.Hop {
	t.Helper()
	h, why := net.Hop(n, router, six, a)
	if why != api.OK {
		t.Fatalf("Hop(%v, %d, %t, %v): error %d", n, router, six, a, why)
	}
	return h
}

// plainWay goes from router to router, up to one that it came to already, or that sends on no more.
func plainWay(t *testing.T, n api.Net, router int, six bool, a api.Addr) ([]int, api.Verdict) {
	t.Helper()
	way := []int{router}
	for {
		last := way[len(way)-1]
		if slices.Index(way, last) < len(way)-1 {
			return way, api.Verdict{Kind: api.VerdictLooping, At: last}
		}
		h := hop(t, n, last, six, a)
		switch h.Kind {
		case api.HopTo:
			way = append(way, h.Peer)
		case api.HopDeliver:
			return way, api.Verdict{Kind: api.VerdictDelivered, At: last}
		case api.HopDiscard:
			return way, api.Verdict{Kind: api.VerdictDiscarded, At: last}
		default:
			return way, api.Verdict{Kind: api.VerdictLost, At: last}
		}
	}
}

// asked is what is asked of a window.
type asked struct {
	p      api.Past
	router int
	six    bool
	a      api.Addr
	w      api.Ivl
}

// looks are times of a window at which is looked, rising: all of them, if they are few; else its ends, and those about each event.
func (x asked) looks() []int64 {
	var l []int64
	if x.w.To-x.w.From <= 100 {
		for time := x.w.From; time <= x.w.To; time++ {
			l = append(l, time)
		}
		return l
	}
	l = append(l, x.w.From, x.w.To)
	for _, e := range x.p.Events {
		for time := e.Time - 1; time <= e.Time+1; time++ {
			if x.w.From <= time && time <= x.w.To {
				l = append(l, time)
			}
		}
	}
	slices.Sort(l)
	return slices.Compact(l)
}

// look is a time that is looked at, and the packet's way then.
type look struct {
	time    int64
	net     api.Net
	way     []int
	verdict api.Verdict
}

func (x asked) lookAt(t *testing.T) []look {
	t.Helper()
	var l []look
	for _, time := range x.looks() {
		n := at(t, x.p, time)
		way, v := plainWay(t, n, x.router, x.six, x.a)
		l = append(l, look{time, n, way, v})
	}
	return l
}

func plainVerdicts(l []look) []api.Era {
	var eras []api.Era
	for _, x := range l {
		if len(eras) == 0 || eras[len(eras)-1].Verdict != x.verdict {
			eras = append(eras, api.Era{Ivl: api.Ivl{From: x.time}, Verdict: x.verdict})
		}
		eras[len(eras)-1].Ivl.To = x.time
	}
	for i := range eras[1:] {
		eras[i].Ivl.To = eras[i+1].Ivl.From - 1
	}
	return eras
}

// plainEver is the intervals at which a verdict's kind is one, those that touch made one.
func plainEver(eras []api.Era, kind api.VerdictKind) []api.Ivl {
	var l []api.Ivl
	for i, e := range eras {
		switch {
		case e.Verdict.Kind != kind:
		case i > 0 && eras[i-1].Verdict.Kind == kind:
			l[len(l)-1].To = e.Ivl.To
		default:
			l = append(l, e.Ivl)
		}
	}
	return l
}

// plainCauses asks each event by itself.
func plainCauses(t *testing.T, x asked, l []look) []api.Event {
	t.Helper()
	var causes []api.Event
	for _, e := range x.p.Events {
		i := slices.IndexFunc(l, func(o look) bool { return o.time == e.Time })
		if i < 1 || l[i].verdict == l[i-1].verdict || l[i-1].time != e.Time-1 {
			continue
		}
		if slices.Contains(l[i-1].way, e.Router) && hop(t, l[i].net, e.Router, x.six, x.a) != hop(t, l[i-1].net, e.Router, x.six, x.a) {
			causes = append(causes, e)
		}
	}
	return causes
}

// everyKind is the kinds of verdicts, and some that are none.
var everyKind = []api.VerdictKind{api.VerdictNone, api.VerdictDelivered, api.VerdictDiscarded, api.VerdictLost, api.VerdictLooping, api.VerdictCount, 77, 255}

// asPlain holds all calls of what is right against the plain forms.
func asPlain(t *testing.T, x asked) {
	t.Helper()
	looks := x.lookAt(t)
	eras := plainVerdicts(looks)
	if l, why := window.Verdicts(x.p, x.router, x.six, x.a, x.w); !slices.Equal(l, eras) || why != api.OK {
		t.Fatalf("Verdicts of %v: %v, error %d, not %v", x, l, why, eras)
	}
	for _, o := range looks {
		if way, v, why := window.Trace(x.p, x.router, x.six, x.a, o.time); !slices.Equal(way, o.way) || v != o.verdict || why != api.OK {
			t.Fatalf("Trace of %v at %d: %v, %v, error %d, not %v, %v", x, o.time, way, v, why, o.way, o.verdict)
		}
	}
	for _, kind := range everyKind {
		if l, why := window.Ever(x.p, x.router, x.six, x.a, x.w, kind); !slices.Equal(l, plainEver(eras, kind)) || why != api.OK {
			t.Fatalf("Ever of %v, kind %d: %v, error %d, not %v", x, kind, l, why, plainEver(eras, kind))
		}
	}
	causes := plainCauses(t, x, looks)
	if l, why := window.Causes(x.p, x.router, x.six, x.a, x.w); !slices.Equal(l, causes) || why != api.OK {
		t.Fatalf("Causes of %v: %v, error %d, not %v", x, l, why, causes)
	}
}

// refused asks all calls of a window for an error, and for zeros beside it.
func refused(t *testing.T, x asked, want api.Errno) {
	t.Helper()
	if l, why := window.Verdicts(x.p, x.router, x.six, x.a, x.w); len(l) != 0 || why != want {
		t.Errorf("Verdicts of %v: %v, error %d, not %d", x, l, why, want)
	}
	for _, kind := range everyKind {
		if l, why := window.Ever(x.p, x.router, x.six, x.a, x.w, kind); len(l) != 0 || why != want {
			t.Errorf("Ever of %v: %v, error %d, not %d", x, l, why, want)
		}
	}
	if l, why := window.Causes(x.p, x.router, x.six, x.a, x.w); len(l) != 0 || why != want {
		t.Errorf("Causes of %v: %v, error %d, not %d", x, l, why, want)
	}
}

// noTrace asks Trace for an error, and for zeros beside it.
func noTrace(t *testing.T, p api.Past, router int, six bool, a api.Addr, time int64, want api.Errno) {
	t.Helper()
	if way, v, why := window.Trace(p, router, six, a, time); len(way) != 0 || v != (api.Verdict{}) || why != want {
		t.Errorf("Trace(%v, %d, %t, %v, %d): %v, %v, error %d, not %d", p, router, six, a, time, way, v, why, want)
	}
}

// Samples.

var (
	deliver = api.Action{Kind: api.ActionDeliver}
	discard = api.Action{Kind: api.ActionDiscard}
	by3     = api.Action{Kind: api.ActionForward, Iface: 3}
	by4     = api.Action{Kind: api.ActionForward, Iface: 4}
	actions = []api.Action{by3, by4, by3, by4, deliver, discard}
	all4    = api.Prefix{}
	all6    = api.Prefix{Six: true}
	ten     = api.Prefix{Addr: api.Addr{Lo: 10 << 24}, Len: 8}
	tenOne  = api.Prefix{Addr: api.Addr{Lo: 10<<24 + 1<<16}, Len: 16}
	inTen   = api.Addr{Lo: 10<<24 + 2<<16}
	inOne   = api.Addr{Lo: 10<<24 + 1<<16 + 7}
	far     = api.Addr{Lo: 11 << 24}
	last4   = api.Addr{Lo: math.MaxUint32}
	last6   = api.Addr{Hi: math.MaxUint64, Lo: math.MaxUint64}

	// somePrefixes are of both kinds, and of addresses within one another.
	somePrefixes = []api.Prefix{all4, all6, ten, {Six: true, Addr: api.Addr{Lo: 10 << 24}, Len: 104}, tenOne}

	wrongAddrs   = []api.Addr{{Lo: 1 << 32}, {Hi: 1}, {Lo: math.MaxUint64}, last6} // none of IPv4
	wrongRouters = []int{-1, -2, math.MinInt, api.MaxId + 1, api.MaxId + 2, math.MaxInt}
	wrongTimes   = []int64{-1, -2, math.MinInt64, api.MaxTime + 1, math.MaxInt64}
	wrongIvls    = []api.Ivl{
		{From: 3, To: 2}, {From: -1, To: 5}, {From: 20, To: api.MaxTime + 1}, {From: api.MaxTime + 1, To: api.MaxTime + 1}, {From: api.MaxTime, To: 20},
		{From: math.MinInt64, To: math.MaxInt64}, {From: math.MaxInt64, To: math.MinInt64}, {From: -3, To: -2}, {From: -1, To: -1}, {From: 8, To: math.MaxInt64},
	}
)

// addrs are right ones of a kind, at the edges of somePrefixes.
func addrs(six bool) []api.Addr {
	if six {
		return []api.Addr{{}, {Lo: 10 << 24}, inOne, far, {Hi: 1}, last6}
	}
	return []api.Addr{{}, {Lo: 10 << 24}, inTen, inOne, far, last4}
}

func from(a, b int64) api.Ivl { return api.Ivl{From: a, To: b} }

// story is a past by what happened, in the order in which it was taken; it numbers events by itself.
type story struct {
	api.Past
	seqs map[int]uint64
}

func told() *story { return &story{api.Past{Horizon: -1}, map[int]uint64{}} }

func (s *story) happens(e api.Event) *story {
	s.seqs[e.Router]++
	e.Seq = s.seqs[e.Router]
	s.Events = append(s.Events, e)
	return s
}

func (s *story) up(time int64, router int) *story {
	return s.happens(api.Event{Kind: api.EventUp, Router: router, Time: time})
}

func (s *story) down(time int64, router int) *story {
	return s.happens(api.Event{Kind: api.EventDown, Router: router, Time: time})
}

func (s *story) add(time int64, router int, p api.Prefix, a api.Action) *story {
	return s.happens(api.Event{Kind: api.EventAdd, Router: router, Time: time, Prefix: p, Action: a})
}

func (s *story) withdraw(time int64, router int, p api.Prefix) *story {
	return s.happens(api.Event{Kind: api.EventWithdraw, Router: router, Time: time, Prefix: p})
}

func (s *story) linkUp(time int64, router, iface, peer int) *story {
	return s.happens(api.Event{Kind: api.EventLinkUp, Router: router, Time: time, Iface: iface, Peer: peer})
}

func (s *story) linkDown(time int64, router, iface int) *story {
	return s.happens(api.Event{Kind: api.EventLinkDown, Router: router, Time: time, Iface: iface})
}

// to has a router begin, and send all packets of IPv4 to another one.
func (s *story) to(time int64, router, peer int) *story {
	return s.up(time, router).linkUp(time, router, 3, peer).add(time, router, all4, by3)
}

// visit is the past of the document's example: a router that delivers from 5 to 7, and knows no route else.
func visit() api.Past {
	return told().up(2, 4).add(5, 4, all4, deliver).withdraw(8, 4, all4).Past
}

// retained is a past of which all ahead of a time is forgotten.
func retained(p api.Past, time int64) api.Past {
	q, _ := past.Retain(p, time)
	return q
}

// chain is of as many routers as there may be: each sends to the next one, and the last one, 63, delivers from the beginning on.
func chain() *story {
	n := api.Net{}
	s := &story{api.Past{}, map[int]uint64{}}
	for id := range api.MaxRouters {
		r := api.Router{Id: id, Up: true, Routes: []api.Route{{Prefix: all4, Action: by3}}, Links: []api.Link{{Iface: 3, Peer: id + 1}}}
		if id == api.MaxRouters-1 {
			r.Routes[0].Action = deliver
		}
		n.Routers = append(n.Routers, r)
		n.Seats = append(n.Seats, api.Seat{Router: id, Seq: 1, Up: true})
		s.seqs[id] = 1
	}
	s.Base = n
	return s
}

// flicker is a chain whose last router's route goes, and comes again, at the times from 1 on.
func flicker(many int) api.Past {
	s := chain()
	for i := range many {
		if i%2 == 0 {
			s.withdraw(int64(i)+1, 63, all4)
		} else {
			s.add(int64(i)+1, 63, all4, deliver)
		}
	}
	return s.Past
}

// wrongs are pasts that are not right.
func wrongs() []api.Past {
	late, twice, more := retained(visit(), 6), visit(), flicker(api.MaxEvents+1)
	late.Horizon = 1
	twice.Events[1].Seq = 1
	return []api.Past{
		{Horizon: -2}, {Horizon: api.MaxTime + 1}, {Horizon: math.MinInt64}, late, twice, more,
		{Horizon: -1, Events: visit().Events[1:]},
		{Base: api.Net{Seats: make([]api.Seat, 1)}}, {Base: api.Net{Routers: make([]api.Router, 1)}},
		{Horizon: -1, Events: make([]api.Event, 1<<16)},
	}
}

var someRouters = []int{0, 3, 6, 9, api.MaxId}

// somePast is a right past by chance, of a few routers, each of which has times of its own; now and then of something that was retained.
func somePast(t *testing.T, r *rand.Rand, many int) api.Past {
	t.Helper()
	s, times, ups := told(), [5]int64{}, [5]bool{}
	for range many {
		i := r.Intn(5)
		times[i] += int64(r.Intn(3))
		time, router, p := times[i], someRouters[i], somePrefixes[min(r.Intn(len(somePrefixes)), r.Intn(len(somePrefixes)))]
		switch {
		case !ups[i]:
			s.up(time, router).linkUp(time, router, 3, someRouters[r.Intn(5)])
			ups[i] = true
		case r.Intn(24) == 0:
			s.down(time, router)
			ups[i] = false
		case r.Intn(5) == 0:
			s.withdraw(time, router, p)
		case r.Intn(12) == 0:
			s.linkDown(time, router, 3+r.Intn(2))
		case r.Intn(4) == 0:
			s.linkUp(time, router, 3+r.Intn(2), append(someRouters, 5)[r.Intn(6)])
		default:
			s.add(time, router, p, actions[r.Intn(6)])
		}
	}
	p := s.Past
	if r.Intn(2) == 0 {
		p = retained(p, int64(r.Intn(8)))
	}
	if why := past.Check(p); why != api.OK {
		t.Fatalf("%v: error %d", p, why)
	}
	return p
}

// eachAsked tells things that are asked of pasts by chance, of windows that are kept.
func eachAsked(t *testing.T, seed int64, many int) iter.Seq[asked] {
	return func(yield func(asked) bool) {
		r := rand.New(rand.NewSource(seed))
		for range many {
			x := asked{p: somePast(t, r, r.Intn(120)), router: someRouters[r.Intn(5)], six: r.Intn(4) == 0}
			if r.Intn(20) == 0 {
				x.router = 5
			}
			l := addrs(x.six)
			x.a = l[r.Intn(len(l))]
			a := max(x.p.Horizon, 0) + int64(r.Intn(6))
			x.w = from(a, a+int64(r.Intn(50)))
			if r.Intn(4) == 0 {
				x.w.To = api.MaxTime - int64(r.Intn(2))
			}
			if !yield(x) {
				return
			}
		}
	}
}

func is(a, b int64, kind api.VerdictKind, router int) api.Era {
	return api.Era{Ivl: from(a, b), Verdict: api.Verdict{Kind: kind, At: router}}
}

func deliveredAt(a, b int64, router int) api.Era { return is(a, b, api.VerdictDelivered, router) }
func discardedAt(a, b int64, router int) api.Era { return is(a, b, api.VerdictDiscarded, router) }
func lostAt(a, b int64, router int) api.Era      { return is(a, b, api.VerdictLost, router) }
func loopingAt(a, b int64, router int) api.Era   { return is(a, b, api.VerdictLooping, router) }

// 26.1

func TestExample(t *testing.T) {
	l, why := window.Verdicts(visit(), 4, false, api.Addr{}, from(0, 9))
	if want := []api.Era{lostAt(0, 4, 4), deliveredAt(5, 7, 4), lostAt(8, 9, 4)}; !slices.Equal(l, want) || why != api.OK {
		t.Errorf("%v, error %d", l, why)
	}
}

// hand is what is told of a window by hand; causes are places of events.
type hand struct {
	say string
	asked
	eras   []api.Era
	causes []int
}

// handsOfOne are of a router by itself.
func handsOfOne() []hand {
	return []hand{
		{"nothing was ever", asked{p: past.Make(), router: 4, w: from(0, api.MaxTime)}, []api.Era{lostAt(0, api.MaxTime, 4)}, nil},
		{"the example", asked{p: visit(), router: 4, w: from(0, 9)}, []api.Era{lostAt(0, 4, 4), deliveredAt(5, 7, 4), lostAt(8, 9, 4)}, []int{1, 2}},
		{"one time", asked{p: visit(), router: 4, w: from(5, 5)}, []api.Era{deliveredAt(5, 5, 4)}, nil},
		{"from its beginning", asked{p: visit(), router: 4, w: from(5, 8)}, []api.Era{deliveredAt(5, 7, 4), lostAt(8, 8, 4)}, []int{2}},
		{"to its end", asked{p: visit(), router: 4, a: last4, w: from(4, 7)}, []api.Era{lostAt(4, 4, 4), deliveredAt(5, 7, 4)}, []int{1}},
		{"another router", asked{p: visit(), router: 5, w: from(0, 9)}, []api.Era{lostAt(0, 9, 5)}, nil},
		{"the other kind", asked{p: visit(), router: 4, six: true, w: from(0, 9)}, []api.Era{lostAt(0, 9, 4)}, nil},
		{"from the horizon on", asked{p: retained(visit(), 6), router: 4, w: from(6, 9)}, []api.Era{deliveredAt(6, 7, 4), lostAt(8, 9, 4)}, []int{0}},
		{"at the greatest time", asked{p: told().up(api.MaxTime, 4).add(api.MaxTime, 4, all6, discard).Past, router: 4, six: true, a: last6, w: from(0, api.MaxTime)},
			[]api.Era{lostAt(0, api.MaxTime-1, 4), discardedAt(api.MaxTime, api.MaxTime, 4)}, []int{0, 1}},
		{"at the least times", asked{p: told().up(0, 0).add(0, 0, all4, deliver).down(1, 0).Past, router: 0, w: from(0, 9)}, []api.Era{deliveredAt(0, 0, 0), lostAt(1, 9, 0)}, []int{2}},
		{"to itself", asked{p: told().to(3, 4, 4).linkDown(6, 4, 3).Past, router: 4, w: from(0, 9)}, []api.Era{lostAt(0, 2, 4), loopingAt(3, 5, 4), lostAt(6, 9, 4)}, []int{0, 1, 2, 3}},
		{"a route that does not matter", asked{p: told().up(0, 4).add(3, 4, tenOne, deliver).add(5, 4, ten, discard).withdraw(6, 4, tenOne).Past, router: 4, a: inTen, w: from(0, 9)},
			[]api.Era{lostAt(0, 4, 4), discardedAt(5, 9, 4)}, []int{2}},
		{"several at one time", asked{p: told().up(0, 4).add(3, 4, tenOne, deliver).add(3, 4, all6, deliver).add(3, 4, ten, deliver).Past, router: 4, a: inTen, w: from(0, 9)},
			[]api.Era{lostAt(0, 2, 4), deliveredAt(3, 9, 4)}, []int{1, 2, 3}},
		{"gone and there again at one time", asked{p: told().up(0, 4).add(0, 4, ten, deliver).withdraw(3, 4, ten).add(3, 4, ten, deliver).Past, router: 4, a: inTen, w: from(0, 9)},
			[]api.Era{deliveredAt(0, 9, 4)}, nil},
	}
}

// handsOfMore are of ways by several routers.
func handsOfMore() []hand {
	return []hand{
		{"a way by three", asked{p: told().to(1, 4, 7).to(2, 7, 9).up(3, 9).add(4, 9, ten, deliver).down(8, 7).Past, router: 4, a: inTen, w: from(0, 9)},
			[]api.Era{lostAt(0, 0, 4), lostAt(1, 1, 7), lostAt(2, 3, 9), deliveredAt(4, 7, 9), lostAt(8, 9, 7)}, []int{0, 1, 2, 3, 4, 5, 7, 8}},
		{"off the way", asked{p: told().to(1, 4, 7).up(1, 7).add(2, 7, all4, deliver).up(2, 9).add(2, 9, all4, deliver).down(6, 9).withdraw(6, 7, all4).Past, router: 4, w: from(1, 9)},
			[]api.Era{lostAt(1, 1, 7), deliveredAt(2, 5, 7), lostAt(6, 9, 7)}, []int{4, 8}},
		{"told later", asked{p: told().to(1, 4, 7).withdraw(6, 4, all4).up(1, 7).add(3, 7, all4, deliver).withdraw(5, 7, all4).Past, router: 4, w: from(0, 9)},
			[]api.Era{lostAt(0, 0, 4), lostAt(1, 2, 7), deliveredAt(3, 4, 7), lostAt(5, 5, 7), lostAt(6, 9, 4)}, []int{0, 1, 2, 3, 5, 6}},
		{"the way turns, the verdict does not", asked{p: told().to(1, 4, 7).to(1, 7, 9).up(1, 9).add(1, 9, all4, deliver).linkUp(4, 4, 3, 9).linkDown(6, 7, 3).Past, router: 4, w: from(1, 9)},
			[]api.Era{deliveredAt(1, 9, 9)}, nil},
		{"both at one time", asked{p: told().to(1, 4, 7).to(1, 7, 9).up(1, 9).linkUp(4, 4, 3, 9).add(4, 9, all4, deliver).add(4, 7, all4, discard).Past, router: 4, w: from(1, 9)},
			[]api.Era{lostAt(1, 3, 9), deliveredAt(4, 9, 9)}, []int{7, 8, 9}},
		{"on the new way alone", asked{p: told().to(1, 4, 7).up(1, 7).add(1, 7, all4, deliver).up(2, 9).add(4, 9, all4, discard).linkUp(4, 4, 3, 9).Past, router: 4, w: from(1, 9)},
			[]api.Era{deliveredAt(1, 3, 7), discardedAt(4, 9, 9)}, []int{7}},
		{"round", asked{p: told().to(1, 4, 7).to(3, 7, 4).to(1, 5, 7).linkUp(6, 4, 3, 4).Past, router: 5, w: from(1, 9)},
			[]api.Era{lostAt(1, 2, 7), loopingAt(3, 5, 7), loopingAt(6, 9, 4)}, []int{3, 4, 5, 9}},
		{"one that nobody knows comes", asked{p: told().to(1, 4, 9).up(3, 9).add(5, 9, all4, deliver).Past, router: 4, w: from(2, 9)},
			[]api.Era{lostAt(2, 4, 9), deliveredAt(5, 9, 9)}, []int{4}},
	}
}

func byHand() []hand { return slices.Concat(handsOfOne(), handsOfMore()) }

func (c hand) events() []api.Event {
	var l []api.Event
	for _, i := range c.causes {
		l = append(l, c.p.Events[i])
	}
	return l
}

func TestByHand(t *testing.T) {
	for _, c := range byHand() {
		if why := past.Check(c.p); why != api.OK {
			t.Fatalf("%s: the past is not right", c.say)
		}
		if l, why := window.Verdicts(c.p, c.router, c.six, c.a, c.w); !slices.Equal(l, c.eras) || why != api.OK {
			t.Errorf("%s: Verdicts %v, error %d, not %v", c.say, l, why, c.eras)
		}
		if l, why := window.Causes(c.p, c.router, c.six, c.a, c.w); !slices.Equal(l, c.events()) || why != api.OK {
			t.Errorf("%s: Causes %v, error %d, not %v", c.say, l, why, c.events())
		}
		asPlain(t, c.asked)
	}
}

func TestByTheWords(t *testing.T) {
	turns, causes := 0, 0
	for x := range eachAsked(t, 261, 200) {
		asPlain(t, x)
		eras, _ := window.Verdicts(x.p, x.router, x.six, x.a, x.w)
		l, _ := window.Causes(x.p, x.router, x.six, x.a, x.w)
		turns, causes = turns+len(eras)-1, causes+len(l)
	}
	if turns < 200 || causes < 200 {
		t.Errorf("only %d turns, and %d causes", turns, causes)
	}
}

func TestTraceByHand(t *testing.T) {
	p := told().to(1, 4, 7).to(3, 7, 4).to(1, 5, 7).add(6, 7, ten, discard).Past
	for _, c := range []struct {
		time   int64
		router int
		a      api.Addr
		way    []int
		kind   api.VerdictKind
	}{
		{0, 4, inTen, []int{4}, api.VerdictLost}, {1, 4, inTen, []int{4, 7}, api.VerdictLost}, {2, 5, inTen, []int{5, 7}, api.VerdictLost},
		{3, 5, inTen, []int{5, 7, 4, 7}, api.VerdictLooping}, {5, 4, inTen, []int{4, 7, 4}, api.VerdictLooping}, {6, 5, inTen, []int{5, 7}, api.VerdictDiscarded},
		{api.MaxTime, 5, far, []int{5, 7, 4, 7}, api.VerdictLooping}, {9, 6, inTen, []int{6}, api.VerdictLost}, {9, api.MaxId, inTen, []int{api.MaxId}, api.VerdictLost},
	} {
		way, v, why := window.Trace(p, c.router, false, c.a, c.time)
		if want := (api.Verdict{Kind: c.kind, At: c.way[len(c.way)-1]}); !slices.Equal(way, c.way) || v != want || why != api.OK {
			t.Errorf("from %d at %d: %v, %v, error %d, not %v, %v", c.router, c.time, way, v, why, c.way, want)
		}
	}
}

func TestWrongThingsAreRefused(t *testing.T) {
	w := from(0, 9)
	for _, p := range wrongs() {
		refused(t, asked{p, 4, false, api.Addr{}, w}, api.ErrForm)
		noTrace(t, p, 4, false, api.Addr{}, 5, api.ErrForm)
	}
	for _, a := range wrongAddrs {
		refused(t, asked{visit(), 4, false, a, w}, api.ErrForm)
		noTrace(t, visit(), 4, false, a, 5, api.ErrForm)
	}
	for _, router := range wrongRouters {
		refused(t, asked{visit(), router, false, api.Addr{}, w}, api.ErrRange)
		noTrace(t, visit(), router, false, api.Addr{}, 5, api.ErrRange)
		noTrace(t, past.Make(), router, true, last6, 5, api.ErrRange)
	}
	for _, wrong := range wrongIvls {
		refused(t, asked{visit(), 4, false, api.Addr{}, wrong}, api.ErrRange)
	}
	for _, time := range wrongTimes {
		noTrace(t, visit(), 4, false, api.Addr{}, time, api.ErrRange)
		noTrace(t, past.Make(), 0, true, last6, time, api.ErrRange)
	}
	for _, horizon := range []int64{1, 6, 9, api.MaxTime} {
		p := retained(visit(), horizon)
		for _, a := range []int64{0, horizon / 2, horizon - 1} {
			refused(t, asked{p, 4, false, api.Addr{}, from(a, api.MaxTime)}, api.ErrExpired)
			noTrace(t, p, 4, false, api.Addr{}, a, api.ErrExpired)
		}
		asPlain(t, asked{p, 4, false, api.Addr{}, from(horizon, api.MaxTime)})
		asPlain(t, asked{p, 4, false, last4, from(horizon, horizon)})
	}
	for _, router := range []int{0, api.MaxId} {
		asPlain(t, asked{visit(), router, true, last6, w})
	}
}

// Where several errors apply, the answer is the one that the chapter names first.
func TestTheFirstErrorIsTold(t *testing.T) {
	old, wrong := retained(visit(), 6), from(7, 6)
	for _, p := range wrongs() {
		for _, router := range []int{4, -1} {
			refused(t, asked{p, router, false, last6, wrong}, api.ErrForm)
			noTrace(t, p, router, true, last6, -1, api.ErrForm)
		}
	}
	for _, router := range []int{4, -1, api.MaxId + 1} {
		for _, i := range []api.Ivl{from(0, 9), wrong, from(0, math.MaxInt64)} {
			refused(t, asked{old, router, false, last6, i}, api.ErrForm)
			noTrace(t, old, router, false, last6, i.From, api.ErrForm)
			noTrace(t, old, router, false, last6, i.To, api.ErrForm)
		}
	}
	for _, i := range []api.Ivl{from(0, 9), wrong, from(5, 5), from(8, 9)} {
		refused(t, asked{old, -1, false, api.Addr{}, i}, api.ErrRange)
		noTrace(t, old, -1, false, api.Addr{}, i.From, api.ErrRange)
	}
	for _, router := range []int{4, -1} {
		refused(t, asked{old, router, false, api.Addr{}, from(5, 4)}, api.ErrRange)
		refused(t, asked{old, router, false, api.Addr{}, from(0, api.MaxTime+1)}, api.ErrRange)
		noTrace(t, old, router, false, api.Addr{}, -1, api.ErrRange)
	}
}

// Eras are too many behind MaxIvls; pieces of hops are not.
func TestTooManyEras(t *testing.T) {
	p := flicker(api.MaxEvents)
	if why := past.Check(p); why != api.OK {
		t.Fatalf("the past: error %d", why)
	}
	for _, w := range []api.Ivl{from(0, api.MaxEvents), from(0, api.MaxTime)} {
		if l, why := window.Verdicts(p, 0, false, inTen, w); len(l) != 0 || why != api.ErrLong {
			t.Fatalf("Verdicts: %d eras, error %d", len(l), why)
		}
		refused(t, asked{p, 63, false, inTen, w}, api.ErrLong)
		if l, why := window.Verdicts(p, 0, true, inTen, w); !slices.Equal(l, []api.Era{lostAt(w.From, w.To, 0)}) || why != api.OK {
			t.Fatalf("Verdicts of the other kind: %v, error %d", l, why)
		}
	}
	for _, w := range []api.Ivl{from(1, api.MaxEvents), from(0, api.MaxEvents-1), from(1, api.MaxTime)} {
		l, why := window.Verdicts(p, 0, false, inTen, w)
		if len(l) != api.MaxIvls || line.Check(w, l) != api.OK || why != api.OK {
			t.Fatalf("Verdicts: %d eras, error %d", len(l), why)
		}
		for i, e := range l {
			if time := w.From + int64(i); e.Ivl.From != time || e.Verdict.At != 63 || (e.Verdict.Kind == api.VerdictDelivered) != (time%2 == 0) {
				t.Fatalf("Verdicts: at %d %v", time, e)
			}
		}
		for _, kind := range []api.VerdictKind{api.VerdictDelivered, api.VerdictLost} {
			if row, why := window.Ever(p, 0, false, inTen, w, kind); len(row) != api.MaxIvls/2 || ivl.Check(row) != api.OK || why != api.OK {
				t.Fatalf("Ever: %d intervals, error %d", len(row), why)
			}
		}
		causes, why := window.Causes(p, 0, false, inTen, w)
		if first := int(w.From); !slices.Equal(causes, p.Events[first:first+api.MaxIvls-1]) || why != api.OK {
			t.Fatalf("Causes: %d events, error %d", len(causes), why)
		}
	}
}

// 26.2

func TestEverByHand(t *testing.T) {
	p := told().to(1, 4, 7).to(2, 7, 9).up(3, 9).add(4, 9, ten, deliver).add(6, 7, ten, deliver).down(8, 7).Past
	w := from(0, 9)
	for _, c := range []struct {
		w    api.Ivl
		kind api.VerdictKind
		row  []api.Ivl
	}{
		{w, api.VerdictLost, []api.Ivl{from(0, 3), from(8, 9)}}, // at 4, 7 and 9, one behind the other
		{w, api.VerdictDelivered, []api.Ivl{from(4, 7)}},        // at 9, then at 7
		{from(5, 5), api.VerdictDelivered, []api.Ivl{from(5, 5)}},
		{from(5, 5), api.VerdictLost, nil},
		{w, api.VerdictDiscarded, nil}, {w, api.VerdictLooping, nil}, {w, api.VerdictNone, nil}, {w, api.VerdictCount, nil}, {w, 255, nil},
	} {
		if l, why := window.Ever(p, 4, false, inTen, c.w, c.kind); len(l) != len(c.row) || !slices.Equal(l, c.row) || why != api.OK {
			t.Errorf("kind %d in %v: %v, error %d, not %v", c.kind, c.w, l, why, c.row)
		}
	}
}

func TestEverIsWhenTheKindIs(t *testing.T) {
	for x := range eachAsked(t, 262, 200) {
		eras, _ := window.Verdicts(x.p, x.router, x.six, x.a, x.w)
		var long int64
		for _, kind := range everyKind {
			row, why := window.Ever(x.p, x.router, x.six, x.a, x.w, kind)
			if ivl.Check(row) != api.OK || why != api.OK {
				t.Fatalf("Ever of %v, kind %d: %v, error %d", x, kind, row, why)
			}
			for _, time := range x.looks() {
				v, _ := line.At(x.w, eras, time)
				if in, _ := ivl.Has(row, time); in != (v.Kind == kind) {
					t.Fatalf("Ever of %v, kind %d: %v, and at %d there is %v", x, kind, row, time, v)
				}
			}
			many, _ := ivl.Long(row)
			long += many
		}
		if long != x.w.To-x.w.From+1 {
			t.Fatalf("of %v all kinds are at %d times", x, long)
		}
	}
}

// 26.3

// roomy is a list with room behind it, which is anyone's.
func roomy[T any](l []T) []T {
	return append(slices.Clone(l), make([]T, 4)...)[:len(l)]
}

// roomyPast is the same past, with room behind all its lists.
func roomyPast(p api.Past) api.Past {
	p.Base.Seats, p.Base.Routers, p.Events = roomy(p.Base.Seats), roomy(p.Base.Routers), roomy(p.Events)
	for i, r := range p.Base.Routers {
		p.Base.Routers[i].Routes, p.Base.Routers[i].Links = roomy(r.Routes), roomy(r.Links)
	}
	return p
}

// sameList tells whether a list with room is what it was, the room behind it, too.
func sameList[T comparable](l, want []T) bool {
	var none T
	return slices.Equal(l, want) && !slices.ContainsFunc(l[:cap(l)][len(l):], func(x T) bool { return x != none })
}

// asItWas tells whether a past with room is a plain one still.
func asItWas(p, plain api.Past) bool {
	is := p.Horizon == plain.Horizon && sameList(p.Events, plain.Events) && sameList(p.Base.Seats, plain.Base.Seats) && len(p.Base.Routers) == len(plain.Base.Routers)
	for i, r := range p.Base.Routers {
		x := plain.Base.Routers[i]
		is = is && r.Id == x.Id && r.Up == x.Up && sameList(r.Routes, x.Routes) && sameList(r.Links, x.Links)
	}
	return is
}

// spoil turns all that a list has room for.
func spoil[T any](l []T, wrong T) {
	for i := range l[:cap(l)] {
		l[:cap(l)][i] = wrong
	}
}

func spoilPast(p api.Past) {
	for _, r := range p.Base.Routers {
		spoil(r.Routes, api.Route{Prefix: api.Prefix{Len: -7}})
		spoil(r.Links, api.Link{Iface: -7})
	}
	spoil(p.Base.Seats, api.Seat{Router: -7})
	spoil(p.Base.Routers, api.Router{Id: -7})
	spoil(p.Events, api.Event{Router: -7})
}

// freshly holds that a call answers new memory each time, that hangs on nothing that was handed in.
func freshly[T comparable](t *testing.T, say string, plain api.Past, wrong T, call func(api.Past) []T) {
	t.Helper()
	p := roomyPast(plain)
	l, other := call(p), call(p)
	want := slices.Clone(l)
	spoil(other, wrong)
	if !slices.Equal(l, want) || !asItWas(p, plain) {
		t.Fatalf("%s: answers share memory, or %v was turned", say, plain)
	}
	spoil(l, wrong)
	if !asItWas(p, plain) || !slices.Equal(call(p), want) {
		t.Fatalf("%s: the answer shares memory with %v, or is kept", say, plain)
	}
	l = call(p)
	spoilPast(p)
	if !slices.Equal(l, want) {
		t.Fatalf("%s: the answer shares memory with %v", say, plain)
	}
}

func TestAnswersAreNewMemory(t *testing.T) {
	hold := func(x asked) {
		freshly(t, "Verdicts", x.p, api.Era{Ivl: from(-7, -7)}, func(p api.Past) []api.Era { l, _ := window.Verdicts(p, x.router, x.six, x.a, x.w); return l })
		freshly(t, "Trace", x.p, -7, func(p api.Past) []int { l, _, _ := window.Trace(p, x.router, x.six, x.a, x.w.From); return l })
		freshly(t, "Causes", x.p, api.Event{Router: -7}, func(p api.Past) []api.Event { l, _ := window.Causes(p, x.router, x.six, x.a, x.w); return l })
		for _, kind := range everyKind {
			freshly(t, "Ever", x.p, from(-7, -7), func(p api.Past) []api.Ivl { l, _ := window.Ever(p, x.router, x.six, x.a, x.w, kind); return l })
		}
	}
	for _, c := range byHand() {
		hold(c.asked)
	}
	for x := range eachAsked(t, 263, 30) {
		hold(x)
	}
	for _, p := range wrongs() {
		hold(asked{p, 4, false, inTen, from(0, 9)})
	}
}

// 26.4

func TestAtEachTimeWhatTraceTells(t *testing.T) {
	for x := range eachAsked(t, 264, 200) {
		l, why := window.Verdicts(x.p, x.router, x.six, x.a, x.w)
		if line.Check(x.w, l) != api.OK || why != api.OK {
			t.Fatalf("Verdicts of %v: %v, error %d", x, l, why)
		}
		for _, time := range x.looks() {
			_, v, why := window.Trace(x.p, x.router, x.six, x.a, time)
			if told, no := line.At(x.w, l, time); told != v || why != api.OK || no != api.OK {
				t.Fatalf("of %v at %d: %v, and Trace tells %v, error %d", x, time, told, v, why)
			}
		}
	}
}

// 26.5

func TestOfAPart(t *testing.T) {
	r := rand.New(rand.NewSource(265))
	for x := range eachAsked(t, 2651, 200) {
		whole, _ := window.Verdicts(x.p, x.router, x.six, x.a, x.w)
		for range 4 {
			a := x.w.From + r.Int63n(min(x.w.To-x.w.From+1, 20))
			part := from(a, a+r.Int63n(x.w.To-a+1))
			want, no := line.Cut(x.w, whole, part)
			if l, why := window.Verdicts(x.p, x.router, x.six, x.a, part); !slices.Equal(l, want) || why != api.OK || no != api.OK {
				t.Fatalf("Verdicts of %v in %v: %v, error %d, not %v", x, part, l, why, want)
			}
		}
	}
}

// 26.6

func TestAddressesOfOneAtomHaveOneLine(t *testing.T) {
	for x := range eachAsked(t, 266, 100) {
		cuts, _ := atoms.Cuts(x.p, x.six)
		spans, why := atoms.Spans(x.six, cuts)
		if why != api.OK {
			t.Fatalf("Spans: error %d", why)
		}
		for _, s := range spans {
			first, _ := window.Verdicts(x.p, x.router, x.six, s.From, x.w)
			amid, _ := addr.Next(x.six, s.From)
			if addr.Cmp(amid, s.To) > 0 {
				amid = s.From
			}
			for _, a := range []api.Addr{amid, s.To} {
				if l, why := window.Verdicts(x.p, x.router, x.six, a, x.w); !slices.Equal(l, first) || why != api.OK {
					t.Fatalf("Verdicts of %v to %v: %v, error %d, and to %v %v", x, a, l, why, s.From, first)
				}
			}
		}
	}
}

// 26.2a, 26.7

func TestEachTurnHasACause(t *testing.T) {
	several := 0
	for x := range eachAsked(t, 267, 400) {
		eras, _ := window.Verdicts(x.p, x.router, x.six, x.a, x.w)
		causes, why := window.Causes(x.p, x.router, x.six, x.a, x.w)
		if why != api.OK {
			t.Fatalf("Causes of %v: error %d", x, why)
		}
		for _, e := range eras[1:] {
			if !slices.ContainsFunc(causes, func(c api.Event) bool { return c.Time == e.Ivl.From }) {
				t.Fatalf("of %v nothing has caused %v: %v", x, e, causes)
			}
		}
		next := 0
		for _, c := range causes {
			if !slices.ContainsFunc(eras[1:], func(e api.Era) bool { return e.Ivl.From == c.Time }) {
				t.Fatalf("of %v nothing turns at %v: %v", x, c, eras)
			}
			at := slices.Index(x.p.Events, c)
			if at < next {
				t.Fatalf("of %v the causes are not in order: %v", x, causes)
			}
			next = at + 1
		}
		if !slices.IsSortedFunc(causes, func(a, b api.Event) int { return int(a.Time - b.Time) }) {
			several++
		}
	}
	if several < 20 {
		t.Errorf("only %d times causes were taken in another order than they happened", several)
	}
}

// All that happens at one time to many routers: those on the way are causes, all others are not.
func TestCausesOfManyRouters(t *testing.T) {
	s := chain()
	for id := range api.MaxRouters {
		s.withdraw(7, 63-id, all4)
	}
	for id := range api.MaxRouters {
		s.add(9, id, all4, deliver)
	}
	p := s.Past
	for _, router := range []int{0, 30, 63} {
		x := asked{p, router, false, far, from(0, 20)}
		asPlain(t, x)
		eras, _ := window.Verdicts(p, router, false, far, x.w)
		if want := []api.Era{deliveredAt(0, 6, 63), lostAt(7, 8, router), deliveredAt(9, 20, router)}; !slices.Equal(eras, want) {
			t.Errorf("from %d: %v", router, eras)
		}
		causes, why := window.Causes(p, router, false, far, x.w)
		if len(causes) != api.MaxRouters-router+1 || causes[len(causes)-1].Router != router || why != api.OK {
			t.Errorf("from %d: %d causes, error %d", router, len(causes), why)
		}
	}
}

// P1, P3, P4

func FuzzAnyNumbers(f *testing.F) {
	f.Add(int64(-1), uint8(3), int64(5), 8, uint64(10<<24), uint8(2), 3, 7, int64(8), 4, false, uint64(0), uint64(10<<24), int64(0), int64(9), uint8(3))
	f.Add(int64(6), uint8(5), int64(7), 0, uint64(0), uint8(1), 0, 4, int64(7), 4, false, uint64(0), uint64(9), int64(7), int64(1<<40), uint8(4))
	f.Add(int64(1<<40), uint8(1), int64(-5), 40, uint64(1), uint8(9), -3, -3, int64(math.MaxInt64), -1, true, uint64(math.MaxUint64), uint64(math.MaxUint64), int64(math.MinInt64), int64(math.MaxInt64), uint8(0))
	f.Add(int64(-1), uint8(2), int64(1<<40), 0, uint64(0), uint8(1), 1<<16, 1<<20, int64(1<<40), 1<<20, false, uint64(0), uint64(1<<32), int64(1<<40), int64(1<<40), uint8(255))
	f.Fuzz(func(t *testing.T, horizon int64, kind uint8, time int64, long int, lo uint64, action uint8, iface, peer int, then int64, router int, six bool, hi, addrLo uint64, a, b int64, verdict uint8) {
		prefix := api.Prefix{Six: six, Addr: api.Addr{Lo: lo}, Len: long}
		does := api.Action{Kind: api.ActionKind(action), Iface: iface}
		up := api.Event{Kind: api.EventUp, Router: 4, Seq: 1, Time: max(horizon, 0) + 1}
		other := api.Event{Kind: api.EventUp, Router: peer, Seq: 1, Time: then}
		any := api.Event{Kind: api.EventKind(kind), Router: 4, Seq: 2, Time: time, Prefix: prefix, Action: does, Iface: iface, Peer: peer}
		add := api.Event{Kind: api.EventAdd, Router: 4, Seq: 2, Time: time, Prefix: prefix, Action: does}
		link := api.Event{Kind: api.EventLinkUp, Router: 4, Seq: 3, Time: then, Iface: iface, Peer: peer}
		x := asked{router: router, six: six, a: api.Addr{Hi: hi, Lo: addrLo}, w: from(a, b)}
		for _, events := range [][]api.Event{nil, {up}, {any}, {up, any}, {up, add}, {up, add, link}, {up, add, link, other}} {
			x.p = api.Past{Horizon: horizon, Events: events}
			form := past.Check(x.p) != api.OK || !addr.Right(six, x.a)
			switch {
			case form:
				refused(t, x, api.ErrForm)
			case a < 0 || a > b || b > 1<<40 || router < 0 || router > 1<<20:
				refused(t, x, api.ErrRange)
			case a < horizon:
				refused(t, x, api.ErrExpired)
			default:
				asPlain(t, x)
			}
			switch {
			case form:
				noTrace(t, x.p, router, six, x.a, a, api.ErrForm)
			case router < 0 || router > 1<<20 || a < 0 || a > 1<<40:
				noTrace(t, x.p, router, six, x.a, a, api.ErrRange)
			case a < horizon:
				noTrace(t, x.p, router, six, x.a, a, api.ErrExpired)
			}
			window.Ever(x.p, router, six, x.a, x.w, api.VerdictKind(verdict))
		}
	})
}

func TestAnswersHangOnArgumentsAlone(t *testing.T) {
	for _, c := range byHand() {
		for range 3 {
			window.Causes(visit(), 4, false, api.Addr{}, from(0, 9))
			p := roomyPast(c.p)
			l, why := window.Verdicts(p, c.router, c.six, c.a, c.w)
			if !slices.Equal(l, c.eras) || why != api.OK {
				t.Fatalf("%s: Verdicts turned: %v, error %d", c.say, l, why)
			}
			causes, why := window.Causes(p, c.router, c.six, c.a, c.w)
			if !slices.Equal(causes, c.events()) || why != api.OK {
				t.Fatalf("%s: Causes turned: %v, error %d", c.say, causes, why)
			}
		}
	}
	for _, p := range []api.Past{{Horizon: -1, Events: []api.Event{}}, {Horizon: -1, Base: api.Net{Seats: []api.Seat{}, Routers: make([]api.Router, 0, 9)}, Events: make([]api.Event, 0, 9)}} {
		asPlain(t, asked{p, 4, false, inTen, from(0, 9)})
	}
}

func TestNoGoroutineIsLeft(t *testing.T) {
	before := runtime.NumGoroutine()
	for _, p := range append(wrongs(), visit(), flicker(20)) {
		for _, six := range []bool{false, true} {
			window.Verdicts(p, 4, six, inTen, from(0, 2000))
			window.Trace(p, 4, six, inTen, 5)
			window.Ever(p, 4, six, inTen, from(0, 2000), api.VerdictLost)
			window.Causes(p, 4, six, inTen, from(0, 2000))
		}
	}
	if after := runtime.NumGoroutine(); after > before {
		t.Errorf("%d goroutines, and %d ahead of the calls", after, before)
	}
}
