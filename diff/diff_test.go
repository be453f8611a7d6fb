package diff_test

import (
	"math"
	"math/rand"
	"runtime"
	"slices"
	"testing"

	"spoor/addr"
	"spoor/api"
	"spoor/diff"
	"spoor/net"
	"spoor/past"
	"spoor/span"
	"spoor/window"
)

// The calls have the signatures of doc/27-diff.md.
var (
	_ func(api.Past, int, bool, int64, int64) ([]api.Span, api.Errno)   = diff.Diff
	_ func(api.Past, bool, api.Addr, int64, int64) ([]int, api.Errno)   = diff.Routers
	_ func(api.Past, int, bool, int64, int64) ([]api.Prefix, api.Errno) = diff.Prefixes
)

// What follows is plain, by the document's words, which name past.At and net.Hop.

// at is the net at a time that is kept.
func at(t *testing.T, p api.Past, time int64) api.Net {
	t.Helper()
	n, why := past.At(p, time)
	if why != api.OK {
		t.Fatalf("At(%v, %d): error %d", p, time, why)
	}
	return n
}

func hop(t *testing.T, n api.Net, router int, six bool, a api.Addr) api.Hop {
	t.Helper()
	h, why := net.Hop(n, router, six, a)
	if why != api.OK {
		t.Fatalf("Hop(%v, %d, %t, %v): error %d", n, router, six, a, why)
	}
	return h
}

// plainWay goes from router to router, up to one that it came to already, or that sends on no more.
func plainWay(t *testing.T, n api.Net, router int, six bool, a api.Addr) ([]int, api.Verdict) {
	t.Helper()
	way := []int{router}
	for {
		last := way[len(way)-1]
		if slices.Index(way, last) < len(way)-1 {
			return way, api.Verdict{Kind: api.VerdictLooping, At: last}
		}
		h := hop(t, n, last, six, a)
		switch h.Kind {
		case api.HopTo:
			way = append(way, h.Peer)
		case api.HopDeliver:
			return way, api.Verdict{Kind: api.VerdictDelivered, At: last}
		case api.HopDiscard:
			return way, api.Verdict{Kind: api.VerdictDiscarded, At: last}
		default:
			return way, api.Verdict{Kind: api.VerdictLost, At: last}
		}
	}
}

// asked is what is asked of two times.
type asked struct {
	p      api.Past
	router int
	six    bool
	t, u   int64
}

// edges are all addresses at which a span may begin or end: the first ones and the last ones of all prefixes that are ever there, and those beside them.
func (x asked) edges() []api.Addr {
	all := []api.Prefix{{Six: x.six}}
	for _, r := range x.p.Base.Routers {
		for _, route := range r.Routes {
			all = append(all, route.Prefix)
		}
	}
	for _, e := range x.p.Events {
		if e.Kind == api.EventAdd {
			all = append(all, e.Prefix)
		}
	}
	var l []api.Addr
	for _, p := range all {
		if p.Six != x.six {
			continue
		}
		last, _ := addr.Last(p)
		l = append(l, p.Addr, last)
		if ahead, why := addr.Prev(x.six, p.Addr); why == api.OK {
			l = append(l, ahead)
		}
		if next, why := addr.Next(x.six, last); why == api.OK {
			l = append(l, next)
		}
	}
	slices.SortFunc(l, addr.Cmp)
	return slices.Compact(l)
}

// plainRouters are those of which one net alone knows, and those from which the verdicts are unlike.
func plainRouters(t *testing.T, one, other api.Net, six bool, a api.Addr) []int {
	t.Helper()
	var l []int
	for _, id := range append(ids(one), ids(other)...) {
		_, v := plainWay(t, one, id, six, a)
		_, w := plainWay(t, other, id, six, a)
		if v != w || slices.Contains(ids(one), id) != slices.Contains(ids(other), id) {
			l = append(l, id)
		}
	}
	slices.Sort(l)
	return slices.Compact(l)
}

func ids(n api.Net) []int {
	var l []int
	for _, r := range n.Routers {
		l = append(l, r.Id)
	}
	return l
}

// asPlain holds all calls of what is right against the plain forms, at each edge, and answers the row.
func asPlain(t *testing.T, x asked) []api.Span {
	t.Helper()
	row, why := diff.Diff(x.p, x.router, x.six, x.t, x.u)
	if why != api.OK || span.Check(x.six, row) != api.OK {
		t.Fatalf("Diff of %v: %v, error %d", x, row, why)
	}
	one, other := at(t, x.p, x.t), at(t, x.p, x.u)
	edges := x.edges()
	for _, s := range row {
		if !slices.Contains(edges, s.From) || !slices.Contains(edges, s.To) {
			t.Fatalf("Diff of %v: %v lies where nothing begins or ends", x, s)
		}
	}
	for i, a := range edges {
		_, v := plainWay(t, one, x.router, x.six, a)
		_, w := plainWay(t, other, x.router, x.six, a)
		if is, _ := span.Has(x.six, row, a); is != (v != w) {
			t.Fatalf("Diff of %v: %v, and of %v there are %v and %v", x, row, a, v, w)
		}
		if i%3 > 0 {
			continue
		}
		want := plainRouters(t, one, other, x.six, a)
		if l, why := diff.Routers(x.p, x.six, a, x.t, x.u); !slices.Equal(l, want) || why != api.OK {
			t.Fatalf("Routers of %v to %v: %v, error %d, not %v", x, a, l, why, want)
		}
	}
	want, no := span.Prefixes(x.six, row)
	if l, why := diff.Prefixes(x.p, x.router, x.six, x.t, x.u); !slices.Equal(l, want) || why != no {
		t.Fatalf("Prefixes of %v: %v, error %d, not %v, error %d", x, l, why, want, no)
	}
	return row
}

// refused asks Diff and Prefixes for an error, and for zeros beside it.
func refused(t *testing.T, x asked, want api.Errno) {
	t.Helper()
	if l, why := diff.Diff(x.p, x.router, x.six, x.t, x.u); len(l) != 0 || why != want {
		t.Errorf("Diff of %v: %v, error %d, not %d", x, l, why, want)
	}
	if l, why := diff.Prefixes(x.p, x.router, x.six, x.t, x.u); len(l) != 0 || why != want {
		t.Errorf("Prefixes of %v: %v, error %d, not %d", x, l, why, want)
	}
}

// noRouters asks Routers for an error, and for zeros beside it.
func noRouters(t *testing.T, p api.Past, six bool, a api.Addr, one, other int64, want api.Errno) {
	t.Helper()
	if l, why := diff.Routers(p, six, a, one, other); len(l) != 0 || why != want {
		t.Errorf("Routers(%v, %t, %v, %d, %d): %v, error %d, not %d", p, six, a, one, other, l, why, want)
	}
}

// Samples.

var (
	deliver = api.Action{Kind: api.ActionDeliver}
	discard = api.Action{Kind: api.ActionDiscard}
	by3     = api.Action{Kind: api.ActionForward, Iface: 3}
	by4     = api.Action{Kind: api.ActionForward, Iface: 4}
	actions = []api.Action{by3, by4, by3, by4, deliver, discard}
	all4    = api.Prefix{}
	all6    = api.Prefix{Six: true}
	ten     = api.Prefix{Addr: api.Addr{Lo: 10 << 24}, Len: 8}
	eleven  = api.Prefix{Addr: api.Addr{Lo: 11 << 24}, Len: 8}
	tenOne  = api.Prefix{Addr: api.Addr{Lo: 10<<24 + 1<<16}, Len: 16}
	first   = api.Prefix{Len: 32}
	final   = api.Prefix{Addr: last4, Len: 32}
	low     = api.Prefix{Six: true, Len: 64}                        // all of Lo, and no more
	next    = api.Prefix{Six: true, Addr: api.Addr{Hi: 1}, Len: 64} // what is next to it
	final6  = api.Prefix{Six: true, Addr: last6, Len: 128}
	inTen   = api.Addr{Lo: 10<<24 + 2<<16}
	far     = api.Addr{Lo: 12 << 24}
	last4   = api.Addr{Lo: math.MaxUint32}
	last6   = api.Addr{Hi: math.MaxUint64, Lo: math.MaxUint64}

	// somePrefixes are of both kinds, and of addresses within one another, and next to one another.
	somePrefixes = []api.Prefix{all4, ten, tenOne, all6, eleven, low, next, first, final, final6, {Six: true, Addr: api.Addr{Lo: 10 << 24}, Len: 104}, {Addr: api.Addr{Lo: 10<<24 - 1}, Len: 32}}

	wrongAddrs   = []api.Addr{{Lo: 1 << 32}, {Hi: 1}, {Lo: math.MaxUint64}, last6} // none of IPv4
	wrongRouters = []int{-1, -2, math.MinInt, api.MaxId + 1, api.MaxId + 2, math.MaxInt}
	wrongTimes   = []int64{-1, -2, math.MinInt64, api.MaxTime + 1, math.MaxInt64}
)

func of(from, to api.Addr) api.Span { return api.Span{From: from, To: to} }

// all is the span of a prefix.
func all(p api.Prefix) api.Span {
	s, _ := span.Of(p)
	return s
}

// story is a past by what happened, in the order in which it was taken; it numbers events by itself.
type story struct {
	api.Past
	seqs map[int]uint64
}

func told() *story { return &story{api.Past{Horizon: -1}, map[int]uint64{}} }

func (s *story) happens(e api.Event) *story {
	s.seqs[e.Router]++
	e.Seq = s.seqs[e.Router]
	s.Events = append(s.Events, e)
	return s
}

func (s *story) up(time int64, router int) *story {
	return s.happens(api.Event{Kind: api.EventUp, Router: router, Time: time})
}

func (s *story) down(time int64, router int) *story {
	return s.happens(api.Event{Kind: api.EventDown, Router: router, Time: time})
}

func (s *story) add(time int64, router int, p api.Prefix, a api.Action) *story {
	return s.happens(api.Event{Kind: api.EventAdd, Router: router, Time: time, Prefix: p, Action: a})
}

func (s *story) withdraw(time int64, router int, p api.Prefix) *story {
	return s.happens(api.Event{Kind: api.EventWithdraw, Router: router, Time: time, Prefix: p})
}

func (s *story) linkUp(time int64, router, iface, peer int) *story {
	return s.happens(api.Event{Kind: api.EventLinkUp, Router: router, Time: time, Iface: iface, Peer: peer})
}

func (s *story) linkDown(time int64, router, iface int) *story {
	return s.happens(api.Event{Kind: api.EventLinkDown, Router: router, Time: time, Iface: iface})
}

// to has a router begin, and send all packets of IPv4 to another one.
func (s *story) to(time int64, router, peer int) *story {
	return s.up(time, router).linkUp(time, router, 3, peer).add(time, router, all4, by3)
}

// visit is the past of the document's example, and what becomes of it: a router that delivers from 5 to 7.
func visit() api.Past {
	return told().up(4, 4).add(5, 4, ten, deliver).withdraw(8, 4, ten).Past
}

// retained is a past of which all ahead of a time is forgotten.
func retained(p api.Past, time int64) api.Past {
	q, _ := past.Retain(p, time)
	return q
}

// wrongs are pasts that are not right.
func wrongs() []api.Past {
	late, twice := retained(visit(), 6), visit()
	late.Horizon = 1
	twice.Events[1].Seq = 1
	return []api.Past{
		{Horizon: -2}, {Horizon: api.MaxTime + 1}, {Horizon: math.MinInt64}, late, twice,
		{Horizon: -1, Events: visit().Events[1:]},
		{Base: api.Net{Seats: make([]api.Seat, 1)}}, {Base: api.Net{Routers: make([]api.Router, 1)}},
		{Horizon: -1, Events: make([]api.Event, 1<<16)},
	}
}

var someRouters = []int{0, 3, 6, 9, api.MaxId}

// somePast is a right past by chance, of a few routers, each of which has times of its own; now and then of something that was retained.
func somePast(t *testing.T, r *rand.Rand, many int) api.Past {
	t.Helper()
	s, times, ups := told(), [5]int64{}, [5]bool{}
	for range many {
		i := r.Intn(5)
		times[i] += int64(r.Intn(3))
		time, router, p := times[i], someRouters[i], somePrefixes[min(r.Intn(len(somePrefixes)), r.Intn(len(somePrefixes)))]
		switch {
		case !ups[i]:
			s.up(time, router).linkUp(time, router, 3, someRouters[r.Intn(5)])
			ups[i] = true
		case r.Intn(24) == 0:
			s.down(time, router)
			ups[i] = false
		case r.Intn(5) == 0:
			s.withdraw(time, router, p)
		case r.Intn(12) == 0:
			s.linkDown(time, router, 3+r.Intn(2))
		case r.Intn(4) == 0:
			s.linkUp(time, router, 3+r.Intn(2), append(someRouters, 5)[r.Intn(6)])
		default:
			s.add(time, router, p, actions[r.Intn(6)])
		}
	}
	p := s.Past
	if r.Intn(2) == 0 {
		p = retained(p, int64(r.Intn(8)))
	}
	if why := past.Check(p); why != api.OK {
		t.Fatalf("%v: error %d", p, why)
	}
	return p
}

// chances are things by chance that are asked of pasts by chance, of times that are kept.
func chances(t *testing.T, seed int64, many int) []asked {
	r := rand.New(rand.NewSource(seed))
	var l []asked
	for range many {
		x := asked{p: somePast(t, r, r.Intn(100)), router: someRouters[r.Intn(5)], six: r.Intn(3) == 0}
		if r.Intn(20) == 0 {
			x.router = 5
		}
		x.t, x.u = someTime(r, x.p), someTime(r, x.p)
		l = append(l, x)
	}
	return l
}

// someTime is one that is kept.
func someTime(r *rand.Rand, p api.Past) int64 {
	if r.Intn(12) == 0 {
		return api.MaxTime - int64(r.Intn(2))
	}
	return max(p.Horizon, 0) + int64(r.Intn(30))
}

// 27.1

func TestExample(t *testing.T) {
	p := visit()
	if l, why := diff.Diff(p, 4, false, 4, 5); !slices.Equal(l, []api.Span{of(ten.Addr, api.Addr{Lo: 11<<24 - 1})}) || why != api.OK {
		t.Errorf("Diff: %v, error %d", l, why)
	}
	if l, why := diff.Prefixes(p, 4, false, 4, 5); !slices.Equal(l, []api.Prefix{ten}) || why != api.OK {
		t.Errorf("Prefixes: %v, error %d", l, why)
	}
}

// hand is what differs, by hand.
type hand struct {
	say string
	asked
	row []api.Span
}

func (s *story) asked(router int, six bool, t, u int64) asked {
	return asked{s.Past, router, six, t, u}
}

// handsOfRows are of one router's routes, and of where they begin and end.
func handsOfRows() []hand {
	begun := func() *story { return told().up(4, 4) }
	return []hand{
		{"nothing was ever", asked{past.Make(), 4, false, 0, api.MaxTime}, nil},
		{"its session alone", begun().asked(4, false, 3, 4), nil},
		{"a route goes", asked{visit(), 4, false, 7, 8}, []api.Span{all(ten)}},
		{"the later time first", asked{visit(), 4, false, 8, 6}, []api.Span{all(ten)}},
		{"there and gone again", asked{visit(), 4, false, 4, 8}, nil},
		{"one time", asked{visit(), 4, false, 5, 5}, nil},
		{"the least and the greatest time", begun().add(5, 4, ten, discard).asked(4, false, 0, api.MaxTime), []api.Span{all(ten)}},
		{"from the horizon on", asked{retained(visit(), 6), 4, false, 6, 9}, []api.Span{all(ten)}},
		{"another router", asked{visit(), 5, false, 4, 5}, nil},
		{"the other kind", asked{visit(), 4, true, 4, 5}, nil},
		{"all of IPv4", begun().add(5, 4, all4, deliver).asked(4, false, 4, 5), []api.Span{of(api.Addr{}, last4)}},
		{"all of IPv6", begun().add(5, 4, all6, deliver).asked(4, true, 4, 5), []api.Span{of(api.Addr{}, last6)}},
		{"the first and the last one", begun().add(5, 4, first, deliver).add(5, 4, final, discard).asked(4, false, 4, 5), []api.Span{all(first), all(final)}},
		{"the last one of IPv6", begun().add(5, 4, final6, discard).asked(4, true, 4, 5), []api.Span{all(final6)}},
		{"next to one another", begun().add(5, 4, ten, deliver).add(5, 4, eleven, discard).asked(4, false, 4, 5), []api.Span{of(ten.Addr, api.Addr{Lo: 12<<24 - 1})}},
		{"where IPv6's halves meet", begun().add(5, 4, low, deliver).add(5, 4, next, deliver).asked(4, true, 4, 5), []api.Span{of(api.Addr{}, api.Addr{Hi: 1, Lo: math.MaxUint64})}},
		{"all but what is within", begun().add(4, 4, tenOne, deliver).add(5, 4, ten, deliver).asked(4, false, 4, 5),
			[]api.Span{of(ten.Addr, api.Addr{Lo: 10<<24 + 1<<16 - 1}), of(api.Addr{Lo: 10<<24 + 2<<16}, api.Addr{Lo: 11<<24 - 1})}},
		{"what is within alone", begun().add(4, 4, ten, deliver).add(5, 4, tenOne, discard).asked(4, false, 4, 5), []api.Span{all(tenOne)}},
		{"what is within does the same", begun().add(4, 4, ten, deliver).add(5, 4, tenOne, deliver).asked(4, false, 4, 5), nil},
		{"all of it, and a part that does something else", begun().add(5, 4, ten, deliver).add(5, 4, tenOne, discard).asked(4, false, 4, 5), []api.Span{all(ten)}},
		{"delivered, then thrown away", begun().add(4, 4, ten, deliver).add(5, 4, ten, discard).asked(4, false, 4, 5), []api.Span{all(ten)}},
		{"its session ends", begun().add(4, 4, first, deliver).add(4, 4, ten, deliver).down(6, 4).asked(4, false, 5, 6), []api.Span{all(first), all(ten)}},
		{"by a link that is not there", begun().add(5, 4, ten, by3).asked(4, false, 4, 5), nil},
	}
}

// handsOfWays are of ways by several routers.
func handsOfWays() []hand {
	return []hand{
		{"another one delivers", told().to(1, 4, 7).to(1, 7, 9).up(1, 9).add(1, 9, ten, deliver).up(1, 8).add(1, 8, ten, deliver).linkUp(5, 7, 3, 8).asked(4, false, 4, 5), []api.Span{of(api.Addr{}, last4)}},
		{"another way to the same end", told().to(1, 4, 7).to(1, 7, 9).up(1, 9).add(1, 9, all4, deliver).linkUp(5, 4, 3, 9).asked(4, false, 4, 5), nil},
		{"by another link to the same one", told().to(1, 4, 7).up(1, 7).add(1, 7, all4, deliver).linkUp(1, 4, 4, 7).add(5, 4, ten, by4).asked(4, false, 4, 5), nil},
		{"far away", told().to(1, 4, 7).to(1, 7, 9).up(1, 9).add(5, 9, tenOne, deliver).asked(4, false, 4, 5), []api.Span{all(tenOne)}},
		{"off the way", told().to(1, 4, 7).up(1, 7).add(1, 7, ten, deliver).up(1, 9).add(5, 9, all4, deliver).asked(4, false, 4, 5), nil},
		{"round", told().to(1, 4, 7).up(1, 7).linkUp(1, 7, 3, 4).add(5, 7, ten, by3).asked(4, false, 4, 5), []api.Span{all(ten)}},
		{"round elsewhere", told().to(1, 5, 4).to(1, 4, 4).up(1, 7).linkUp(1, 7, 3, 7).add(1, 7, eleven, by3).linkUp(6, 5, 3, 7).asked(5, false, 1, 6), []api.Span{of(api.Addr{}, last4)}},
		{"one that nobody knows comes", told().to(1, 4, 9).up(5, 9).add(5, 9, ten, deliver).asked(4, false, 4, 5), []api.Span{all(ten)}},
		{"told later", told().up(8, 7).add(8, 7, ten, deliver).to(1, 4, 7).asked(4, false, 7, 8), []api.Span{all(ten)}},
	}
}

func byHand() []hand { return slices.Concat(handsOfRows(), handsOfWays()) }

func TestByHand(t *testing.T) {
	for _, c := range byHand() {
		if why := past.Check(c.p); why != api.OK {
			t.Fatalf("%s: the past is not right", c.say)
		}
		if l := asPlain(t, c.asked); !slices.Equal(l, c.row) {
			t.Errorf("%s: %v, not %v", c.say, l, c.row)
		}
	}
}

func TestByTheWords(t *testing.T) {
	many, spans := 0, 0
	for _, x := range chances(t, 271, 500) {
		if l := asPlain(t, x); len(l) > 0 {
			many, spans = many+1, spans+len(l)
		}
	}
	if many < 100 || spans < 120 {
		t.Errorf("only %d rows are not empty, of %d spans", many, spans)
	}
}

func TestWrongThingsAreRefused(t *testing.T) {
	for _, p := range wrongs() {
		refused(t, asked{p, 4, false, 4, 5}, api.ErrForm)
		noRouters(t, p, false, inTen, 4, 5, api.ErrForm)
	}
	for _, a := range wrongAddrs {
		noRouters(t, visit(), false, a, 4, 5, api.ErrForm)
	}
	for _, router := range wrongRouters {
		refused(t, asked{visit(), router, false, 4, 5}, api.ErrRange)
		refused(t, asked{past.Make(), router, true, 4, 5}, api.ErrRange)
	}
	for _, time := range wrongTimes {
		for _, six := range []bool{false, true} {
			refused(t, asked{visit(), 4, six, time, 5}, api.ErrRange)
			refused(t, asked{visit(), 4, six, 5, time}, api.ErrRange)
			noRouters(t, visit(), six, inTen, time, 5, api.ErrRange)
			noRouters(t, visit(), six, inTen, 5, time, api.ErrRange)
		}
	}
	for _, horizon := range []int64{1, 6, 9, api.MaxTime} {
		p := retained(visit(), horizon)
		for _, time := range []int64{0, horizon / 2, horizon - 1} {
			refused(t, asked{p, 4, false, time, api.MaxTime}, api.ErrExpired)
			refused(t, asked{p, 4, false, horizon, time}, api.ErrExpired)
			noRouters(t, p, false, inTen, time, horizon, api.ErrExpired)
			noRouters(t, p, false, inTen, api.MaxTime, time, api.ErrExpired)
		}
		asPlain(t, asked{p, 4, false, horizon, api.MaxTime})
	}
	for _, router := range []int{0, api.MaxId} {
		asPlain(t, asked{visit(), router, true, 0, api.MaxTime})
	}
}

// Where several errors apply, the answer is the one that the chapter names first.
func TestTheFirstErrorIsTold(t *testing.T) {
	old := retained(visit(), 6)
	for _, p := range wrongs() {
		for _, router := range []int{4, -1} {
			refused(t, asked{p, router, false, -1, 0}, api.ErrForm)
			refused(t, asked{p, router, false, 5, -1}, api.ErrForm)
		}
		noRouters(t, p, false, last6, -1, 0, api.ErrForm)
		noRouters(t, p, false, inTen, 7, -1, api.ErrForm)
	}
	for _, times := range [][2]int64{{0, 7}, {7, 0}, {0, -1}, {-1, 0}} {
		refused(t, asked{old, -1, false, times[0], times[1]}, api.ErrRange)
		refused(t, asked{old, api.MaxId + 1, false, times[0], times[1]}, api.ErrRange)
		noRouters(t, old, false, last6, times[0], times[1], api.ErrForm)
	}
	for _, time := range wrongTimes {
		refused(t, asked{old, 4, false, 5, time}, api.ErrExpired)
		refused(t, asked{old, 4, false, time, 5}, api.ErrRange)
		noRouters(t, old, false, inTen, 5, time, api.ErrExpired)
		noRouters(t, old, false, inTen, time, 5, api.ErrRange)
	}
}

// full is a past of as much as there may be: four routers, each of which sends on what it has no single address of; all of those come at 5, each apart from the one ahead of it.
func full() (api.Past, []api.Span) {
	s := told()
	for id := range 4 {
		s.up(1, id)
		if id < 3 {
			s.linkUp(1, id, 3, id+1).add(1, id, all4, by3)
		}
	}
	s.Past = retained(s.Past, 2)
	var row []api.Span
	for i := range api.MaxTotal - 6 {
		a := api.Addr{Lo: uint64(i)*977 + 5}
		s.add(5, i/255, api.Prefix{Addr: a, Len: 32}, deliver)
		row = append(row, of(a, a))
	}
	return s.Past, row
}

func TestAFullPast(t *testing.T) {
	p, want := full()
	if w, why := past.Weight(p); w != api.MaxTotal || why != api.OK {
		t.Fatalf("the past weighs %d, error %d", w, why)
	}
	for _, times := range [][2]int64{{4, 5}, {5, 4}} {
		if l, why := diff.Diff(p, 0, false, times[0], times[1]); !slices.Equal(l, want) || why != api.OK {
			t.Fatalf("Diff: %d spans, error %d", len(l), why)
		}
	}
	l, why := diff.Prefixes(p, 0, false, 4, 5)
	if len(l) != len(want) || why != api.OK {
		t.Fatalf("Prefixes: %d, error %d", len(l), why)
	}
	for i, q := range l {
		if q.Addr != want[i].From || q.Len != 32 {
			t.Fatalf("Prefixes: %v at %d, not of %v", q, i, want[i])
		}
	}
	if l, why := diff.Diff(p, 3, false, 4, 5); !slices.Equal(l, want[3*255:]) || why != api.OK {
		t.Fatalf("Diff from the last router: %d spans, error %d", len(l), why)
	}
}

// A row may be right, and have more prefixes than there may be: what lies between single addresses of IPv6 has up to 126 of them each.
func TestTooManyPrefixes(t *testing.T) {
	for _, c := range []struct {
		singles int
		long    bool
	}{{10, false}, {200, true}} {
		s := told().up(4, 4)
		for i := range c.singles {
			s.add(4, 4, api.Prefix{Six: true, Addr: api.Addr{Hi: uint64(i+1) << 56, Lo: 1}, Len: 128}, discard)
		}
		p := s.add(5, 4, all6, deliver).Past
		l, why := diff.Diff(p, 4, true, 4, 5)
		if len(l) != c.singles+1 || why != api.OK {
			t.Fatalf("Diff: %d spans, error %d", len(l), why)
		}
		want, no := span.Prefixes(true, l)
		some, why := diff.Prefixes(p, 4, true, 4, 5)
		if (no == api.ErrLong) != c.long || why != no || !slices.Equal(some, want) {
			t.Errorf("Prefixes of %d spans: %d, error %d, not %d, error %d", len(l), len(some), why, len(want), no)
		}
	}
}

// 27.2

func TestRoutersByHand(t *testing.T) {
	p := told().to(1, 4, 7).to(2, 5, 4).up(3, 7).add(5, 7, ten, deliver).down(8, 4).up(9, 3).Past
	for _, c := range []struct {
		a    api.Addr
		t, u int64
		l    []int
	}{
		{inTen, 4, 5, []int{4, 5, 7}}, {inTen, 5, 4, []int{4, 5, 7}}, {far, 4, 5, nil},
		{inTen, 0, 1, []int{4}},                                                  // there in one net alone
		{inTen, 1, 0, []int{4}}, {far, 2, 3, []int{7}}, {far, 1, 4, []int{5, 7}}, // lost at 7, whether it is known or not
		{inTen, 7, 8, []int{4, 5}}, {far, 7, 8, []int{4, 5}}, {inTen, 8, 9, []int{3}}, {inTen, 0, 9, []int{3, 4, 5, 7}}, {inTen, 0, api.MaxTime, []int{3, 4, 5, 7}},
		{inTen, 9, 9, nil}, {inTen, 9, 100, nil}, {inTen, 5, 7, nil},
	} {
		if l, why := diff.Routers(p, false, c.a, c.t, c.u); !slices.Equal(l, c.l) || why != api.OK {
			t.Errorf("to %v between %d and %d: %v, error %d, not %v", c.a, c.t, c.u, l, why, c.l)
		}
	}
	if l, why := diff.Routers(p, true, last6, 4, 5); len(l) != 0 || why != api.OK {
		t.Errorf("of the other kind: %v, error %d", l, why)
	}
}

// 27.3

// roomy is a list with room behind it, which is anyone's.
func roomy[T any](l []T) []T {
	return append(slices.Clone(l), make([]T, 4)...)[:len(l)]
}

// roomyPast is the same past, with room behind all its lists.
func roomyPast(p api.Past) api.Past {
	p.Base.Seats, p.Base.Routers, p.Events = roomy(p.Base.Seats), roomy(p.Base.Routers), roomy(p.Events)
	for i, r := range p.Base.Routers {
		p.Base.Routers[i].Routes, p.Base.Routers[i].Links = roomy(r.Routes), roomy(r.Links)
	}
	return p
}

// sameList tells whether a list with room is what it was, the room behind it, too.
func sameList[T comparable](l, want []T) bool {
	var none T
	return slices.Equal(l, want) && !slices.ContainsFunc(l[:cap(l)][len(l):], func(x T) bool { return x != none })
}

// asItWas tells whether a past with room is a plain one still.
func asItWas(p, plain api.Past) bool {
	is := p.Horizon == plain.Horizon && sameList(p.Events, plain.Events) && sameList(p.Base.Seats, plain.Base.Seats) && len(p.Base.Routers) == len(plain.Base.Routers)
	for i, r := range p.Base.Routers {
		x := plain.Base.Routers[i]
		is = is && r.Id == x.Id && r.Up == x.Up && sameList(r.Routes, x.Routes) && sameList(r.Links, x.Links)
	}
	return is
}

// spoil turns all that a list has room for.
func spoil[T any](l []T, wrong T) {
	for i := range l[:cap(l)] {
		l[:cap(l)][i] = wrong
	}
}

func spoilPast(p api.Past) {
	for _, r := range p.Base.Routers {
		spoil(r.Routes, api.Route{Prefix: api.Prefix{Len: -7}})
		spoil(r.Links, api.Link{Iface: -7})
	}
	spoil(p.Base.Seats, api.Seat{Router: -7})
	spoil(p.Base.Routers, api.Router{Id: -7})
	spoil(p.Events, api.Event{Router: -7})
}

// freshly holds that a call answers new memory each time, that hangs on nothing that was handed in.
func freshly[T comparable](t *testing.T, say string, plain api.Past, wrong T, call func(api.Past) []T) {
	t.Helper()
	p := roomyPast(plain)
	l, other := call(p), call(p)
	want := slices.Clone(l)
	spoil(other, wrong)
	if !slices.Equal(l, want) || !asItWas(p, plain) {
		t.Fatalf("%s: answers share memory, or %v was turned", say, plain)
	}
	spoil(l, wrong)
	if !asItWas(p, plain) || !slices.Equal(call(p), want) {
		t.Fatalf("%s: the answer shares memory with %v, or is kept", say, plain)
	}
	l = call(p)
	spoilPast(p)
	if !slices.Equal(l, want) {
		t.Fatalf("%s: the answer shares memory with %v", say, plain)
	}
}

func TestAnswersAreNewMemory(t *testing.T) {
	hold := func(x asked) {
		freshly(t, "Diff", x.p, of(last6, api.Addr{}), func(p api.Past) []api.Span { l, _ := diff.Diff(p, x.router, x.six, x.t, x.u); return l })
		freshly(t, "Prefixes", x.p, api.Prefix{Len: -7}, func(p api.Past) []api.Prefix { l, _ := diff.Prefixes(p, x.router, x.six, x.t, x.u); return l })
		freshly(t, "Routers", x.p, -7, func(p api.Past) []int { l, _ := diff.Routers(p, x.six, inTen, x.t, x.u); return l })
	}
	for _, c := range byHand() {
		hold(c.asked)
	}
	for _, x := range chances(t, 273, 60) {
		hold(x)
	}
	for _, p := range wrongs() {
		hold(asked{p, 4, false, 4, 5})
	}
}

// 27.4

func TestJustWhatTraceTells(t *testing.T) {
	r := rand.New(rand.NewSource(274))
	for _, x := range chances(t, 2741, 120) {
		row, why := diff.Diff(x.p, x.router, x.six, x.t, x.u)
		edges := x.edges()
		for range 12 {
			a := edges[r.Intn(len(edges))]
			if r.Intn(2) == 0 {
				a.Lo = uint64(r.Uint32())
			}
			_, v, no := window.Trace(x.p, x.router, x.six, a, x.t)
			_, w, not := window.Trace(x.p, x.router, x.six, a, x.u)
			if is, _ := span.Has(x.six, row, a); is != (v != w) || why != api.OK || no != api.OK || not != api.OK {
				t.Fatalf("Diff of %v: %v, error %d, and of %v Trace tells %v and %v", x, row, why, a, v, w)
			}
		}
	}
}

// 27.5

func (x asked) row(t, u int64) []api.Span {
	l, _ := diff.Diff(x.p, x.router, x.six, t, u)
	return l
}

func (x asked) routers(a api.Addr, t, u int64) []int {
	l, _ := diff.Routers(x.p, x.six, a, t, u)
	return l
}

func TestBetweenTimes(t *testing.T) {
	r := rand.New(rand.NewSource(275))
	quiet := 0
	for _, x := range chances(t, 2751, 250) {
		row, v := x.row(x.t, x.u), someTime(r, x.p)
		if !slices.Equal(row, x.row(x.u, x.t)) || len(x.row(v, v)) > 0 || len(x.routers(inTen, v, v)) > 0 {
			t.Fatalf("of %v: %v, exchanged %v, and between %d and itself %v", x, row, x.row(x.u, x.t), v, x.row(v, v))
		}
		some := x.routers(inTen, x.t, x.u)
		if !slices.Equal(some, x.routers(inTen, x.u, x.t)) {
			t.Fatalf("of %v: Routers %v, exchanged %v", x, some, x.routers(inTen, x.u, x.t))
		}
		turns, _ := past.Times(x.p, api.Ivl{From: min(x.t, x.u), To: max(x.t, x.u)})
		if len(turns) == 0 {
			quiet++
			if len(row) > 0 || len(some) > 0 {
				t.Fatalf("of %v: %v, routers %v, and nothing happened", x, row, some)
			}
		}
		either, _ := span.Or(x.six, x.row(x.t, v), x.row(v, x.u))
		if both, _ := span.And(x.six, row, either); !slices.Equal(both, row) {
			t.Fatalf("of %v: %v, and by %d only %v", x, row, v, either)
		}
		for _, router := range some {
			if !slices.Contains(x.routers(inTen, x.t, v), router) && !slices.Contains(x.routers(inTen, v, x.u), router) {
				t.Fatalf("of %v: router %d, and not by %d", x, router, v)
			}
		}
	}
	if quiet < 10 {
		t.Errorf("only %d times nothing happened", quiet)
	}
}

// P1, P3, P4

func FuzzAnyNumbers(f *testing.F) {
	f.Add(int64(-1), uint8(3), int64(5), 8, uint64(10<<24), uint8(2), 3, 7, int64(8), 4, false, uint64(0), uint64(10<<24), int64(0), int64(9))
	f.Add(int64(6), uint8(5), int64(7), 0, uint64(0), uint8(1), 0, 4, int64(7), 4, false, uint64(0), uint64(9), int64(7), int64(1<<40))
	f.Add(int64(1<<40), uint8(1), int64(-5), 40, uint64(1), uint8(9), -3, -3, int64(math.MaxInt64), -1, true, uint64(math.MaxUint64), uint64(math.MaxUint64), int64(math.MinInt64), int64(math.MaxInt64))
	f.Add(int64(-1), uint8(2), int64(1<<40), 0, uint64(0), uint8(1), 1<<16, 1<<20, int64(1<<40), 1<<20, false, uint64(0), uint64(1<<32), int64(1<<40), int64(1<<40))
	f.Fuzz(func(t *testing.T, horizon int64, kind uint8, time int64, long int, lo uint64, action uint8, iface, peer int, then int64, router int, six bool, hi, addrLo uint64, one, other int64) {
		prefix := api.Prefix{Six: six, Addr: api.Addr{Lo: lo}, Len: long}
		does := api.Action{Kind: api.ActionKind(action), Iface: iface}
		up := api.Event{Kind: api.EventUp, Router: 4, Seq: 1, Time: max(horizon, 0) + 1}
		another := api.Event{Kind: api.EventUp, Router: peer, Seq: 1, Time: then}
		any := api.Event{Kind: api.EventKind(kind), Router: 4, Seq: 2, Time: time, Prefix: prefix, Action: does, Iface: iface, Peer: peer}
		add := api.Event{Kind: api.EventAdd, Router: 4, Seq: 2, Time: time, Prefix: prefix, Action: does}
		link := api.Event{Kind: api.EventLinkUp, Router: 4, Seq: 3, Time: then, Iface: iface, Peer: peer}
		a := api.Addr{Hi: hi, Lo: addrLo}
		for _, events := range [][]api.Event{nil, {up}, {any}, {up, any}, {up, add}, {up, add, link}, {up, add, link, another}} {
			x := asked{api.Past{Horizon: horizon, Events: events}, router, six, one, other}
			why := whyNot(x.p, one, other)
			switch {
			case why == api.ErrForm:
				refused(t, x, why)
			case router < 0 || router > 1<<20:
				refused(t, x, api.ErrRange)
			case why != api.OK:
				refused(t, x, why)
			default:
				asPlain(t, x)
			}
			switch {
			case why == api.ErrForm || !addr.Right(six, a):
				noRouters(t, x.p, six, a, one, other, api.ErrForm)
			case why != api.OK:
				noRouters(t, x.p, six, a, one, other, why)
			default:
				if l, why := diff.Routers(x.p, six, a, one, other); !slices.Equal(l, plainRouters(t, at(t, x.p, one), at(t, x.p, other), six, a)) || why != api.OK {
					t.Fatalf("Routers of %v to %v: %v, error %d", x, a, l, why)
				}
			}
		}
	})
}

// whyNot is past.At's error of the one time, then of the other.
func whyNot(p api.Past, one, other int64) api.Errno {
	if _, why := past.At(p, one); why != api.OK {
		return why
	}
	_, why := past.At(p, other)
	return why
}

func TestAnswersHangOnArgumentsAlone(t *testing.T) {
	for _, c := range byHand() {
		l, no := diff.Routers(c.p, c.six, inTen, c.t, c.u)
		for range 3 {
			diff.Routers(visit(), false, inTen, 4, 5)
			p := roomyPast(c.p)
			if row, why := diff.Diff(p, c.router, c.six, c.t, c.u); !slices.Equal(row, c.row) || why != api.OK {
				t.Fatalf("%s: Diff turned: %v, error %d", c.say, row, why)
			}
			if some, why := diff.Routers(p, c.six, inTen, c.t, c.u); !slices.Equal(some, l) || why != no {
				t.Fatalf("%s: Routers turned: %v, error %d", c.say, some, why)
			}
		}
	}
	for _, p := range []api.Past{{Horizon: -1, Events: []api.Event{}}, {Horizon: -1, Base: api.Net{Seats: []api.Seat{}, Routers: make([]api.Router, 0, 9)}, Events: make([]api.Event, 0, 9)}} {
		asPlain(t, asked{p, 4, false, 0, 9})
	}
}

func TestNoGoroutineIsLeft(t *testing.T) {
	before := runtime.NumGoroutine()
	for _, p := range append(wrongs(), visit()) {
		for _, six := range []bool{false, true} {
			diff.Diff(p, 4, six, 4, 5)
			diff.Prefixes(p, 4, six, 4, 5)
			diff.Routers(p, six, inTen, 4, 5)
		}
	}
	if after := runtime.NumGoroutine(); after > before {
		t.Errorf("%d goroutines, and %d ahead of the calls", after, before)
	}
}
