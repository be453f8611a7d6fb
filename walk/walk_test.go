package walk_test

import (
	"math"
	"math/rand"
	"runtime"
	"slices"
	"testing"

	"spoor/addr"
	"spoor/api"
	"spoor/net"
	"spoor/walk"
)

// The calls have the signatures of doc/23-walk.md.
var (
	_ func(api.Net, int, bool, api.Addr) ([]int, api.Verdict, api.Errno) = walk.Walk
	_ func(api.Net, int, bool, api.Addr, int) (bool, api.Errno)          = walk.Meets
	_ func(api.Net, int, bool, api.Addr) ([]int, api.Errno)              = walk.Loop
)

// What follows is plain, by the document's words, which name net.Hop.

func hop(t *testing.T, n api.Net, router int, six bool, a api.Addr) api.Hop {
	t.Helper()
	h, why := net.Hop(n, router, six, a)
	if why != api.OK {
		t.Fatalf("Hop(%v, %d, %t, %v): error %d", n, router, six, a, why)
	}
	return h
}

// plainWalk is of what is right.
func plainWalk(t *testing.T, n api.Net, router int, six bool, a api.Addr) ([]int, api.Verdict) {
	t.Helper()
	way := []int{router}
	for {
		last := len(way) - 1
		if slices.Contains(way[:last], way[last]) {
			return way, api.Verdict{Kind: api.VerdictLooping, At: way[last]}
		}
		h := hop(t, n, way[last], six, a)
		switch h.Kind {
		case api.HopTo:
			way = append(way, h.Peer)
		case api.HopDeliver:
			return way, api.Verdict{Kind: api.VerdictDelivered, At: way[last]}
		case api.HopDiscard:
			return way, api.Verdict{Kind: api.VerdictDiscarded, At: way[last]}
		default:
			return way, api.Verdict{Kind: api.VerdictLost, At: way[last]}
		}
	}
}

// plainLoop is what there is between the two times that the last router of a way is on it, with the first one.
func plainLoop(way []int, v api.Verdict) ([]int, api.Errno) {
	if v.Kind != api.VerdictLooping {
		return nil, api.ErrNone
	}
	first := 0
	for way[first] != v.At {
		first++
	}
	return way[first : len(way)-1], api.OK
}

// asPlain holds all calls of what is right against the plain forms.
func asPlain(t *testing.T, n api.Net, router int, six bool, a api.Addr) {
	t.Helper()
	want, verdict := plainWalk(t, n, router, six, a)
	if way, v, why := walk.Walk(n, router, six, a); !slices.Equal(way, want) || v != verdict || why != api.OK {
		t.Fatalf("Walk(%v, %d, %t, %v): %v, %v, error %d, not %v, %v", n, router, six, a, way, v, why, want, verdict)
	}
	round, no := plainLoop(want, verdict)
	if l, why := walk.Loop(n, router, six, a); !slices.Equal(l, round) || why != no {
		t.Fatalf("Loop(%v, %d, %t, %v): %v, error %d, not %v, %d", n, router, six, a, l, why, round, no)
	}
	for _, other := range slices.Concat(someRouters, want) {
		if is, why := walk.Meets(n, router, six, a, other); is != slices.Contains(want, other) || why != api.OK {
			t.Fatalf("Meets(%v, %d, %t, %v, %d): %t, error %d, and the way is %v", n, router, six, a, other, is, why, want)
		}
	}
}

// refused asks all calls for an error, and for zeros beside it.
func refused(t *testing.T, n api.Net, router int, six bool, a api.Addr, want api.Errno) {
	t.Helper()
	if way, v, why := walk.Walk(n, router, six, a); len(way) != 0 || v != (api.Verdict{}) || why != want {
		t.Errorf("Walk(%v, %d, %t, %v): %v, %v, error %d, not %d", n, router, six, a, way, v, why, want)
	}
	if l, why := walk.Loop(n, router, six, a); len(l) != 0 || why != want {
		t.Errorf("Loop(%v, %d, %t, %v): %v, error %d, not %d", n, router, six, a, l, why, want)
	}
	for _, other := range someRouters {
		if is, why := walk.Meets(n, router, six, a, other); is || why != want {
			t.Errorf("Meets(%v, %d, %t, %v, %d): %t, error %d, not %d", n, router, six, a, other, is, why, want)
		}
	}
}

// Samples.

var (
	deliver = api.Action{Kind: api.ActionDeliver}
	discard = api.Action{Kind: api.ActionDiscard}
	by3     = api.Action{Kind: api.ActionForward, Iface: 3}
	ten     = api.Prefix{Addr: api.Addr{Lo: 10 << 24}, Len: 8}
	last4   = api.Addr{Lo: math.MaxUint32}
	last6   = api.Addr{Hi: math.MaxUint64, Lo: math.MaxUint64}
	kinds   = []bool{false, true}
	// wrongAddrs are none of IPv4.
	wrongAddrs   = []api.Addr{{Lo: 1 << 32}, {Hi: 1}, {Lo: math.MaxUint64}, last6}
	someRouters  = []int{0, 1, 2, 3, 4, 5, 7, 8, 9, api.MaxId - 1, api.MaxId, api.MaxId + 1, -1, math.MinInt, math.MaxInt}
	wrongRouters = []int{-1, -2, math.MinInt, api.MaxId + 1, api.MaxId + 2, math.MaxInt}
)

// does is a router that does one thing with all packets of both kinds.
func does(id int, a api.Action, links ...api.Link) api.Router {
	routes := []api.Route{{Prefix: api.Prefix{}, Action: a}, {Prefix: api.Prefix{Six: true}, Action: a}}
	return api.Router{Id: id, Up: true, Routes: routes, Links: links}
}

func to(id, peer int) api.Router { return does(id, by3, api.Link{Iface: 3, Peer: peer}) }

// knowsNothing has a link, but no route.
func knowsNothing(id int) api.Router {
	return api.Router{Id: id, Up: true, Links: []api.Link{{Iface: 3, Peer: 4}}}
}

// seated is a right net of right routers that rise.
func seated(l ...api.Router) api.Net {
	n := api.Net{Routers: l}
	for _, r := range l {
		n.Seats = append(n.Seats, api.Seat{Router: r.Id, Seq: 3, Time: 7, Up: r.Up})
	}
	return n
}

// ids are that many routers, at both ends of all routers, too.
func ids(many int) []int {
	return []int{0, 4, 5, api.MaxId}[:many]
}

const nobody = 9 // a router that none of the small nets has

// eachSmall tells all nets of up to four routers, each of which delivers, discards, knows nothing, or sends to one of them, itself too, or to nobody.
func eachSmall(tell func(api.Net)) {
	for many := range 5 {
		all := ids(many)
		var grow func(l []api.Router)
		grow = func(l []api.Router) {
			if len(l) == many {
				tell(seated(slices.Clone(l)...))
				return
			}
			id := all[len(l)]
			for _, r := range []api.Router{does(id, deliver), does(id, discard), knowsNothing(id), to(id, nobody)} {
				grow(append(l, r))
			}
			for _, peer := range all {
				grow(append(l, to(id, peer)))
			}
		}
		grow(nil)
	}
}

// chain is of as many routers as there may be: each sends to the next one, the last one to another one. All of them have as many routes and links as there may be.
func chain(last int) api.Net {
	var l []api.Router
	for id := range api.MaxRouters {
		peer := id + 1
		if peer == api.MaxRouters {
			peer = last
		}
		r := to(id, peer)
		for i := range uint64(13) {
			p := api.Prefix{Six: true, Addr: api.Addr{Hi: (i + 1) << 32}, Len: 64}
			r.Routes = append(r.Routes, api.Route{Prefix: p, Action: deliver})
		}
		l = append(l, r)
	}
	return seated(l...)
}

func count(from, behind int) []int {
	var l []int
	for i := from; i < behind; i++ {
		l = append(l, i)
	}
	return l
}

// crossed sends packets of unlike addresses, and of unlike kinds, unlike ways.
func crossed() api.Net {
	by := func(iface int) api.Action { return api.Action{Kind: api.ActionForward, Iface: iface} }
	tenOne := api.Prefix{Addr: api.Addr{Lo: 10<<24 + 1<<16}, Len: 16}
	return seated(
		api.Router{Id: 2, Up: true, Routes: []api.Route{{Prefix: ten, Action: by3}, {Prefix: tenOne, Action: by(5)}, {Prefix: api.Prefix{Six: true, Addr: api.Addr{Hi: 7 << 32}, Len: 32}, Action: by(6)}},
			Links: []api.Link{{Iface: 3, Peer: 4}, {Iface: 5, Peer: 7}}},
		api.Router{Id: 4, Up: true, Routes: []api.Route{{Prefix: ten, Action: by3}, {Prefix: api.Prefix{Six: true}, Action: by(8)}}, Links: []api.Link{{Iface: 3, Peer: 7}, {Iface: 8, Peer: 2}}},
		api.Router{Id: 5},
		api.Router{Id: 7, Up: true, Routes: []api.Route{{Prefix: ten, Action: discard}, {Prefix: tenOne, Action: deliver}, {Prefix: api.Prefix{Six: true}, Action: by3}}, Links: []api.Link{{Iface: 3, Peer: 5}}},
	)
}

// wrongs are nets that are not right.
func wrongs() []api.Net {
	more := chain(0)
	more.Routers[0].Links = append(more.Routers[0].Links, api.Link{Iface: 9})
	twice, other, down, far := seated(to(4, 4), to(4, 4)), seated(to(4, 4)), seated(to(4, 4)), seated(to(4, 4))
	other.Seats[0].Router = 5
	down.Seats[0].Up = false
	far.Routers[0].Links[0].Peer = api.MaxId + 1
	return []api.Net{
		more, twice, other, down, far,
		seated(to(5, 4), to(4, 5)), seated(to(-1, 4)), seated(to(api.MaxId+1, 4)), seated(to(4, -1)),
		seated(does(4, api.Action{})), seated(does(4, deliver), api.Router{Id: 5, Links: []api.Link{{Iface: 3, Peer: 4}}}),
		{Seats: other.Seats}, {Routers: other.Routers}, {Seats: make([]api.Seat, 1<<16), Routers: make([]api.Router, 1<<16)},
	}
}

// someNet is a right net by chance, of routers that are ids of a small number.
func someNet(r *rand.Rand) api.Net {
	var l []api.Router
	for id := range 1 + r.Intn(12) {
		x := api.Router{Id: id, Up: true}
		for iface := range 4 {
			if r.Intn(8) > 0 {
				x.Links = append(x.Links, api.Link{Iface: iface, Peer: r.Intn(13)})
			}
		}
		for _, p := range somePrefixes {
			if r.Intn(2) == 0 {
				x.Routes = append(x.Routes, api.Route{Prefix: p, Action: someAction(r)})
			}
		}
		if r.Intn(12) == 0 {
			x = api.Router{Id: id}
		}
		l = append(l, x)
	}
	return seated(l...)
}

// someAction mostly forwards, so that ways are long.
func someAction(r *rand.Rand) api.Action {
	if i := r.Intn(12); i < 2 {
		return []api.Action{deliver, discard}[i]
	}
	return api.Action{Kind: api.ActionForward, Iface: r.Intn(4)}
}

// somePrefixes rise.
var somePrefixes = []api.Prefix{
	{}, ten, {Addr: api.Addr{Lo: 10<<24 + 1<<16}, Len: 16}, {Addr: last4, Len: 32},
	{Six: true}, {Six: true, Addr: api.Addr{Lo: 10 << 24}, Len: 104}, {Six: true, Addr: api.Addr{Hi: 1 << 63}, Len: 1}, {Six: true, Addr: last6, Len: 128},
}

// addrs are right ones of a kind, at the edges of somePrefixes.
func addrs(six bool) []api.Addr {
	l := []api.Addr{{}, {Lo: 10 << 24}, {Lo: 10<<24 + 1<<16 + 7}, {Lo: 11 << 24}, last4}
	if six {
		l = append(l, api.Addr{Hi: 1}, api.Addr{Hi: 1 << 63}, last6)
	}
	return l
}

// 23.1

func TestExample(t *testing.T) {
	n := seated(to(4, 7), to(5, 7), to(7, 4))
	for _, c := range []struct {
		router int
		way    []int
		at     int
	}{{4, []int{4, 7, 4}, 4}, {5, []int{5, 7, 4, 7}, 7}} {
		way, v, why := walk.Walk(n, c.router, false, ten.Addr)
		if !slices.Equal(way, c.way) || v != (api.Verdict{Kind: api.VerdictLooping, At: c.at}) || why != api.OK {
			t.Errorf("from %d: %v, %v, error %d", c.router, way, v, why)
		}
	}
}

// hand is a way that is told by hand.
type hand struct {
	net    api.Net
	router int
	six    bool
	addr   api.Addr
	way    []int
	kind   api.VerdictKind
	loop   []int
}

// byHand are ways in nets; each ends at its last router.
func byHand() []hand {
	six7 := api.Addr{Hi: 7 << 32}
	delivered, discarded, lost, looping := api.VerdictDelivered, api.VerdictDiscarded, api.VerdictLost, api.VerdictLooping
	return []hand{
		{net: api.Net{}, router: 0, way: []int{0}, kind: lost},
		{net: api.Net{}, router: api.MaxId, six: true, addr: last6, way: []int{api.MaxId}, kind: lost},
		{net: seated(api.Router{Id: 4}), router: 4, way: []int{4}, kind: lost},
		{net: seated(knowsNothing(4)), router: 4, way: []int{4}, kind: lost},
		{net: seated(does(4, by3)), router: 4, way: []int{4}, kind: lost},
		{net: seated(does(4, by3, api.Link{Iface: 4, Peer: 5}), does(5, deliver)), router: 4, way: []int{4}, kind: lost},
		{net: seated(does(4, deliver)), router: 4, addr: last4, way: []int{4}, kind: delivered},
		{net: seated(does(4, discard)), router: 4, six: true, way: []int{4}, kind: discarded},
		{net: seated(does(4, deliver)), router: 5, way: []int{5}, kind: lost},
		{net: seated(to(4, 9)), router: 4, way: []int{4, 9}, kind: lost},
		{net: seated(to(0, api.MaxId), does(api.MaxId, deliver)), router: 0, way: []int{0, api.MaxId}, kind: delivered},
		{net: seated(to(0, api.MaxId), to(api.MaxId, 0)), router: api.MaxId, way: []int{api.MaxId, 0, api.MaxId}, kind: looping, loop: []int{api.MaxId, 0}},
		{net: seated(to(4, 4)), router: 4, way: []int{4, 4}, kind: looping, loop: []int{4}},
		{net: seated(to(0, 0)), router: 0, way: []int{0, 0}, kind: looping, loop: []int{0}},
		{net: seated(to(4, 4), to(5, 4)), router: 5, way: []int{5, 4, 4}, kind: looping, loop: []int{4}},
		{net: seated(to(1, 3), to(2, 1), to(3, 2), to(5, 2)), router: 5, way: []int{5, 2, 1, 3, 2}, kind: looping, loop: []int{2, 1, 3}},
		{net: seated(to(1, 3), to(2, 1), to(3, 2), to(5, 2)), router: 3, way: []int{3, 2, 1, 3}, kind: looping, loop: []int{3, 2, 1}},
		{net: seated(to(1, 2), does(2, discard), to(3, 1)), router: 3, way: []int{3, 1, 2}, kind: discarded},
		{net: seated(to(1, 2), api.Router{Id: 2}, to(3, 1)), router: 3, way: []int{3, 1, 2}, kind: lost},
		{net: crossed(), router: 2, addr: ten.Addr, way: []int{2, 4, 7}, kind: discarded},
		{net: crossed(), router: 2, addr: api.Addr{Lo: 10<<24 + 1<<16 + 1}, way: []int{2, 7}, kind: delivered},
		{net: crossed(), router: 2, addr: api.Addr{Lo: 11 << 24}, way: []int{2}, kind: lost},
		{net: crossed(), router: 2, six: true, addr: six7, way: []int{2}, kind: lost},
		{net: crossed(), router: 2, six: true, addr: api.Addr{Lo: 10 << 24}, way: []int{2}, kind: lost},
		{net: crossed(), router: 4, six: true, addr: api.Addr{Lo: 10 << 24}, way: []int{4, 2}, kind: lost},
		{net: crossed(), router: 7, six: true, addr: six7, way: []int{7, 5}, kind: lost},
		{net: chain(api.MaxId), router: 0, way: append(count(0, 64), api.MaxId), kind: lost},
		{net: chain(0), router: 0, way: append(count(0, 64), 0), kind: looping, loop: count(0, 64)},
		{net: chain(0), router: 63, way: append([]int{63}, count(0, 64)...), kind: looping, loop: append([]int{63}, count(0, 63)...)},
		{net: chain(63), router: 0, way: append(count(0, 64), 63), kind: looping, loop: []int{63}},
		{net: chain(32), router: 7, way: append(count(7, 64), 32), kind: looping, loop: count(32, 64)},
		{net: chain(0), router: 9, six: true, addr: api.Addr{Hi: 1 << 32}, way: []int{9}, kind: delivered},
	}
}

func TestWaysByHand(t *testing.T) {
	for _, c := range byHand() {
		want := api.Verdict{Kind: c.kind, At: c.way[len(c.way)-1]}
		if way, v, why := walk.Walk(c.net, c.router, c.six, c.addr); !slices.Equal(way, c.way) || v != want || why != api.OK {
			t.Errorf("Walk(%v, %d, %t, %v): %v, %v, error %d, not %v, %v", c.net, c.router, c.six, c.addr, way, v, why, c.way, want)
		}
		no := api.OK
		if c.loop == nil {
			no = api.ErrNone
		}
		if l, why := walk.Loop(c.net, c.router, c.six, c.addr); !slices.Equal(l, c.loop) || why != no {
			t.Errorf("Loop(%v, %d, %t, %v): %v, error %d, not %v, %d", c.net, c.router, c.six, c.addr, l, why, c.loop, no)
		}
		for _, other := range slices.Concat(someRouters, c.way) {
			if is, why := walk.Meets(c.net, c.router, c.six, c.addr, other); is != slices.Contains(c.way, other) || why != api.OK {
				t.Errorf("Meets(%v, %d, %t, %v, %d): %t, error %d", c.net, c.router, c.six, c.addr, other, is, why)
			}
		}
	}
}

func TestAllSmallNets(t *testing.T) {
	eachSmall(func(n api.Net) {
		for _, router := range []int{0, 4, 5, nobody, api.MaxId} {
			asPlain(t, n, router, false, ten.Addr)
			asPlain(t, n, router, true, last6)
		}
	})
}

func TestNetsByChance(t *testing.T) {
	r := rand.New(rand.NewSource(231))
	for range 300 {
		n := someNet(r)
		for _, six := range kinds {
			for _, a := range addrs(six) {
				for range 3 {
					asPlain(t, n, r.Intn(14), six, a)
				}
			}
		}
	}
}

func TestNetsThatAreNotRightAreRefused(t *testing.T) {
	for _, n := range wrongs() {
		if net.Check(n) != api.ErrForm {
			t.Fatalf("the sample %v is right", n)
		}
		for _, router := range someRouters { // such that can be none, too
			for _, six := range kinds {
				refused(t, n, router, six, ten.Addr, api.ErrForm)
			}
			refused(t, n, router, false, wrongAddrs[0], api.ErrForm)
		}
	}
}

func TestAddressesThatAreNotRightAreRefused(t *testing.T) {
	for _, n := range []api.Net{{}, seated(to(4, 4)), seated(does(4, deliver)), crossed(), chain(0)} {
		for _, a := range wrongAddrs {
			for _, router := range someRouters {
				refused(t, n, router, false, a, api.ErrForm)
			}
			asPlain(t, n, 4, true, a) // of IPv6 each is right
		}
		asPlain(t, n, 4, false, last4)
	}
}

func TestRoutersThatCanBeNoneAreRefused(t *testing.T) {
	for _, n := range []api.Net{{}, seated(to(0, 0)), seated(to(4, api.MaxId)), seated(does(api.MaxId, deliver)), crossed(), chain(0)} {
		for _, six := range kinds {
			for _, router := range wrongRouters {
				refused(t, n, router, six, ten.Addr, api.ErrRange)
			}
			for _, router := range []int{0, 1, api.MaxId - 1, api.MaxId} {
				asPlain(t, n, router, six, ten.Addr)
			}
		}
	}
}

// 23.2

// roomy is a list with room behind it.
func roomy[T any](l []T) []T {
	return append(make([]T, 0, len(l)+4), l...)
}

// roomyNet is the same net, whose lists have room behind them.
func roomyNet(n api.Net) api.Net {
	n.Seats, n.Routers = roomy(n.Seats), roomy(n.Routers)
	for i, r := range n.Routers {
		n.Routers[i].Routes, n.Routers[i].Links = roomy(r.Routes), roomy(r.Links)
	}
	return n
}

func isZero[T comparable](x T) bool {
	var zero T
	return x == zero
}

// sameList tells whether a list is another one, and has nothing in the room behind it.
func sameList[T comparable](l, want []T) bool {
	return slices.Equal(l, want) && !slices.ContainsFunc(l[:cap(l)][len(l):], func(x T) bool { return !isZero(x) })
}

// asItWas tells whether a roomy net is still the plain one.
func asItWas(n, plain api.Net) bool {
	is := func(r, want api.Router) bool {
		return r.Id == want.Id && r.Up == want.Up && sameList(r.Routes, want.Routes) && sameList(r.Links, want.Links)
	}
	none := func(r api.Router) bool { return is(r, api.Router{}) }
	behind := n.Routers[:cap(n.Routers)][len(n.Routers):]
	return sameList(n.Seats, plain.Seats) && slices.EqualFunc(n.Routers, plain.Routers, is) && !slices.ContainsFunc(behind, func(r api.Router) bool { return !none(r) })
}

func spoil(l []int) {
	for i := range l[:cap(l)] {
		l[:cap(l)][i] = -7
	}
}

func TestAnswersAreNewMemory(t *testing.T) {
	for _, c := range byHand() {
		n := roomyNet(c.net)
		way, v, _ := walk.Walk(n, c.router, c.six, c.addr)
		other, _, _ := walk.Walk(n, c.router, c.six, c.addr)
		loop, _ := walk.Loop(n, c.router, c.six, c.addr)
		round, _ := walk.Loop(n, c.router, c.six, c.addr)
		walk.Meets(n, c.router, c.six, c.addr, 4)
		spoil(other)
		spoil(round)
		if !slices.Equal(way, c.way) || !slices.Equal(loop, c.loop) {
			t.Errorf("answers share memory: %v, %v, not %v, %v", way, loop, c.way, c.loop)
		}
		spoil(loop)
		if !slices.Equal(way, c.way) || !asItWas(n, c.net) {
			t.Errorf("%v: a call turned it, or shares memory with it", c.net)
		}
		asPlain(t, n, c.router, c.six, c.addr)
		for i := range n.Routers { // the answer is not kept with the net
			n.Routers[i] = does(n.Routers[i].Id, deliver)
		}
		if !slices.Equal(way, c.way) || v.At != c.way[len(c.way)-1] {
			t.Errorf("%v: a way shares memory with it", c.net)
		}
	}
}

func TestWrongNetsStayAsTheyWere(t *testing.T) {
	for _, plain := range wrongs() {
		n := roomyNet(plain)
		walk.Walk(n, 4, false, ten.Addr)
		walk.Meets(n, 4, false, ten.Addr, 5)
		walk.Loop(n, 4, true, ten.Addr)
		if !asItWas(n, plain) {
			t.Errorf("a call turned %v", plain)
		}
	}
}

// Nothing of a net is kept: what it is made later is what is told later.
func TestNothingIsKept(t *testing.T) {
	n := seated(to(4, 7), to(5, 7), to(7, 4))
	asPlain(t, n, 5, false, ten.Addr)
	n.Routers[2] = does(7, deliver)
	asPlain(t, n, 5, false, ten.Addr)
	if way, v, _ := walk.Walk(n, 5, false, ten.Addr); !slices.Equal(way, []int{5, 7}) || v != (api.Verdict{Kind: api.VerdictDelivered, At: 7}) {
		t.Errorf("from 5: %v, %v", way, v)
	}
	n.Routers[1].Links[0].Peer = 4
	if way, _, _ := walk.Walk(n, 5, false, ten.Addr); !slices.Equal(way, []int{5, 4, 7}) {
		t.Errorf("from 5: %v", way)
	}
}

// eachWay tells ways of many nets, with what they are of.
func eachWay(t *testing.T, tell func(n api.Net, six bool, a api.Addr, way []int, v api.Verdict)) {
	t.Helper()
	ask := func(n api.Net, router int, six bool, a api.Addr) {
		way, v, why := walk.Walk(n, router, six, a)
		if why != api.OK || len(way) == 0 {
			t.Fatalf("Walk(%v, %d, %t, %v): %v, error %d", n, router, six, a, way, why)
		}
		tell(n, six, a, way, v)
	}
	for _, c := range byHand() {
		ask(c.net, c.router, c.six, c.addr)
	}
	r := rand.New(rand.NewSource(233))
	for range 200 {
		n := someNet(r)
		for _, six := range kinds {
			for _, a := range addrs(six) {
				ask(n, r.Intn(14), six, a)
			}
		}
	}
	every := 0
	eachSmall(func(n api.Net) {
		if every++; every%7 == 0 {
			for _, router := range []int{0, 4, 5, nobody, api.MaxId} {
				ask(n, router, true, api.Addr{})
			}
		}
	})
}

// 23.3

func TestEachRouterIsTheHopOfTheOneAhead(t *testing.T) {
	eachWay(t, func(n api.Net, six bool, a api.Addr, way []int, v api.Verdict) {
		last := len(way) - 1
		for i, router := range way[:last] {
			if h := hop(t, n, router, six, a); h != (api.Hop{Kind: api.HopTo, Peer: way[i+1]}) {
				t.Fatalf("%d of the way %v in %v goes %v", router, way, n, h)
			}
			if slices.Contains(way[:i], router) {
				t.Fatalf("%d is on the way %v in %v twice", router, way, n)
			}
		}
		round := slices.Contains(way[:last], way[last])
		if round != (v.Kind == api.VerdictLooping) || v.At != way[last] {
			t.Fatalf("the way %v in %v is %v", way, n, v)
		}
		if !round && hop(t, n, way[last], six, a).Kind == api.HopTo {
			t.Fatalf("the way %v in %v goes on", way, n)
		}
	})
}

// 23.4

func TestFromThereOn(t *testing.T) {
	eachWay(t, func(n api.Net, six bool, a api.Addr, way []int, v api.Verdict) {
		for i, router := range way {
			then, verdict, why := walk.Walk(n, router, six, a)
			if why != api.OK {
				t.Fatalf("Walk(%v, %d, %t, %v): error %d", n, router, six, a, why)
			}
			want := v
			if round := slices.Index(way, v.At); v.Kind == api.VerdictLooping && i >= round {
				want.At = router
			} else if !slices.Equal(then, way[i:]) {
				t.Fatalf("of the way %v from %d on in %v: %v", way, router, n, then)
			}
			if verdict != want {
				t.Fatalf("of the way %v, %v, from %d on in %v: %v, %v", way, v, router, n, then, verdict)
			}
		}
	})
}

// 23.5

func TestRoundTheSameLoop(t *testing.T) {
	loops := 0
	eachWay(t, func(n api.Net, six bool, a api.Addr, way []int, v api.Verdict) {
		if v.Kind != api.VerdictLooping {
			return
		}
		loops++
		loop, why := walk.Loop(n, way[0], six, a)
		if why != api.OK || len(loop) == 0 || loop[0] != v.At {
			t.Fatalf("Loop(%v, %d, %t, %v): %v, error %d", n, way[0], six, a, loop, why)
		}
		for i, router := range loop {
			want := slices.Concat(loop[i:], loop[:i])
			if l, why := walk.Loop(n, router, six, a); !slices.Equal(l, want) || why != api.OK {
				t.Fatalf("Loop(%v, %d, %t, %v): %v, error %d, not %v", n, router, six, a, l, why, want)
			}
			if l, _, _ := walk.Walk(n, router, six, a); !slices.Equal(l, append(want, router)) {
				t.Fatalf("Walk(%v, %d, %t, %v): %v, not %v and %d", n, router, six, a, l, want, router)
			}
		}
	})
	if loops < 100 {
		t.Errorf("there were only %d loops", loops)
	}
}

// P1, P3, P4

func FuzzAnyNumbers(f *testing.F) {
	f.Add(4, 7, 7, 4, true, uint64(0), uint64(10<<24), 8, uint8(1), 3, 3, 4, false, uint64(0), uint64(10<<24), 4)
	f.Add(4, 4, 4, 4, true, uint64(1), uint64(10<<24), 40, uint8(1), 3, 4, 4, true, uint64(0), uint64(10<<24), 4)
	f.Add(0, api.MaxId, api.MaxId, 0, true, uint64(0), uint64(0), 0, uint8(1), 0, 0, api.MaxId, false, uint64(1), uint64(0), api.MaxId+1)
	f.Add(-1, 1<<30, 5, -3, false, uint64(0), uint64(0), 0, uint8(9), -3, 1<<20, -1, true, uint64(1), uint64(0), math.MinInt)
	f.Fuzz(func(t *testing.T, id, peer, otherId, otherPeer int, up bool, hi, lo uint64, long int, action uint8, iface, by, router int, six bool, toHi, toLo uint64, other int) {
		p := api.Prefix{Six: six, Addr: api.Addr{Hi: hi, Lo: lo}, Len: long}
		a := api.Addr{Hi: toHi, Lo: toLo}
		one := api.Router{Id: id, Up: up, Routes: []api.Route{{Prefix: p, Action: api.Action{Kind: api.ActionKind(action), Iface: iface}}}, Links: []api.Link{{Iface: by, Peer: peer}}}
		for _, n := range []api.Net{
			{}, seated(one), seated(one, to(otherId, otherPeer)), seated(to(otherId, otherPeer), one), seated(to(id, peer), to(otherId, otherPeer)), {Routers: []api.Router{one}},
		} {
			switch {
			case net.Check(n) != api.OK || !addr.Right(six, a):
				refused(t, n, router, six, a, api.ErrForm)
			case router < 0 || router > api.MaxId:
				refused(t, n, router, six, a, api.ErrRange)
			default:
				asPlain(t, n, router, six, a)
			}
			walk.Meets(n, router, six, a, other)
		}
	})
}

// Ways of full nets take no longer than the routers on them ask for, and nets that are far too great no longer than few.
func TestManyWays(t *testing.T) {
	n := chain(0)
	if many, why := net.Size(n); many != api.MaxTotal || why != api.OK {
		t.Fatalf("the chain has %d routes and links, error %d", many, why)
	}
	for range 10 {
		for router := range api.MaxRouters {
			if way, _, why := walk.Walk(n, router, false, ten.Addr); len(way) != api.MaxRouters+1 || why != api.OK {
				t.Fatalf("Walk from %d: %v, error %d", router, way, why)
			}
		}
	}
	far := api.Net{Seats: make([]api.Seat, 1<<20), Routers: make([]api.Router, 1<<20)}
	for range 1000 {
		if _, _, why := walk.Walk(far, 4, false, ten.Addr); why != api.ErrForm {
			t.Fatalf("Walk: error %d", why)
		}
	}
}

func TestAnswersHangOnArgumentsAlone(t *testing.T) {
	for _, c := range byHand() {
		for range 3 {
			walk.Walk(crossed(), 2, false, ten.Addr)
			way, v, why := walk.Walk(roomyNet(c.net), c.router, c.six, c.addr)
			if !slices.Equal(way, c.way) || v.Kind != c.kind || why != api.OK {
				t.Fatalf("Walk turned: %v, %v, error %d, not %v", way, v, why, c.way)
			}
		}
	}
	for _, none := range []api.Net{{}, {Seats: []api.Seat{}, Routers: []api.Router{}}, {Seats: make([]api.Seat, 0, 9), Routers: make([]api.Router, 0, 9)}} {
		asPlain(t, none, 4, false, ten.Addr)
	}
	bare := seated(api.Router{Id: 4, Up: true, Routes: []api.Route{}, Links: []api.Link{}})
	asPlain(t, bare, 4, false, ten.Addr)
}

func TestNoGoroutineIsLeft(t *testing.T) {
	before := runtime.NumGoroutine()
	for _, c := range byHand() {
		walk.Walk(c.net, c.router, c.six, c.addr)
		walk.Meets(c.net, c.router, c.six, c.addr, 4)
		walk.Loop(c.net, c.router, c.six, c.addr)
	}
	for _, n := range wrongs() {
		walk.Walk(n, 4, false, ten.Addr)
		walk.Meets(n, 4, false, ten.Addr, 4)
		walk.Loop(n, -1, false, wrongAddrs[0])
	}
	if after := runtime.NumGoroutine(); after > before {
		t.Errorf("%d goroutines, and %d ahead of the calls", after, before)
	}
}
