package judge_test

import (
	"maps"
	"math"
	"math/rand"
	"runtime"
	"slices"
	"testing"

	"spoor/addr"
	"spoor/api"
	"spoor/judge"
	"spoor/net"
	"spoor/walk"
)

// The calls have the signatures of doc/24-judge.md.
var (
	_ func(api.Net, bool, api.Addr) ([]api.Fate, api.Errno) = judge.Fates
	_ func(api.Net, bool, api.Addr) ([][]int, api.Errno)    = judge.Loops
	_ func(api.Net, bool, api.Addr, int) ([]int, api.Errno) = judge.Into
	_ func([]api.Fate, api.VerdictKind) int                 = judge.Count
	_ func([]api.Fate, []api.Fate) []int                    = judge.Differ
)

// What follows is plain, by the document's words, which name net.Hop, and the ways of walk.

func plainFates(t *testing.T, n api.Net, six bool, a api.Addr) []api.Fate {
	t.Helper()
	var l []api.Fate
	for _, r := range n.Routers {
		_, v, why := walk.Walk(n, r.Id, six, a)
		if why != api.OK {
			t.Fatalf("Walk(%v, %d, %t, %v): error %d", n, r.Id, six, a, why)
		}
		l = append(l, api.Fate{Router: r.Id, Verdict: v})
	}
	return l
}

// plainLoops goes on from each router until it is there again, or has gone farther than there are routers; of a loop its least router's is told.
func plainLoops(t *testing.T, n api.Net, six bool, a api.Addr) [][]int {
	t.Helper()
	var loops [][]int
	for _, r := range n.Routers {
		l := []int{r.Id}
		for len(l) <= len(n.Routers)+1 {
			h, why := net.Hop(n, l[len(l)-1], six, a)
			if why != api.OK {
				t.Fatalf("Hop(%v, %d, %t, %v): error %d", n, l[len(l)-1], six, a, why)
			}
			if h.Kind != api.HopTo {
				break
			}
			if h.Peer == r.Id {
				if slices.Min(l) == r.Id {
					loops = append(loops, l)
				}
				break
			}
			l = append(l, h.Peer)
		}
	}
	return loops
}

func plainInto(t *testing.T, n api.Net, six bool, a api.Addr, router int) []int {
	t.Helper()
	var l []int
	for _, r := range n.Routers {
		way, _, why := walk.Walk(n, r.Id, six, a)
		if why != api.OK {
			t.Fatalf("Walk(%v, %d, %t, %v): error %d", n, r.Id, six, a, why)
		}
		if slices.Contains(way, router) {
			l = append(l, r.Id)
		}
	}
	return l
}

// plainFirst is the first fate of a router.
func plainFirst(l []api.Fate, router int) (api.Verdict, bool) {
	for _, f := range l {
		if f.Router == router {
			return f.Verdict, true
		}
	}
	return api.Verdict{}, false
}

func plainDiffer(a, b []api.Fate) []int {
	var l []int
	for _, f := range slices.Concat(a, b) {
		v, inA := plainFirst(a, f.Router)
		w, inB := plainFirst(b, f.Router)
		if (inA != inB || v != w) && !slices.Contains(l, f.Router) {
			l = append(l, f.Router)
		}
	}
	slices.Sort(l)
	return l
}

func sameLoops(a, b [][]int) bool {
	return slices.EqualFunc(a, b, func(l, m []int) bool { return slices.Equal(l, m) })
}

// asPlain holds all calls of a right net against the plain forms.
func asPlain(t *testing.T, n api.Net, six bool, a api.Addr) {
	t.Helper()
	fates := plainFates(t, n, six, a)
	if l, why := judge.Fates(n, six, a); !slices.Equal(l, fates) || why != api.OK {
		t.Fatalf("Fates(%v, %t, %v): %v, error %d, not %v", n, six, a, l, why, fates)
	}
	loops := plainLoops(t, n, six, a)
	if l, why := judge.Loops(n, six, a); !sameLoops(l, loops) || why != api.OK {
		t.Fatalf("Loops(%v, %t, %v): %v, error %d, not %v", n, six, a, l, why, loops)
	}
	for _, router := range []int{0, 4, 5, 7, nobody, api.MaxId} {
		want := plainInto(t, n, six, a, router)
		if l, why := judge.Into(n, six, a, router); !slices.Equal(l, want) || why != api.OK {
			t.Fatalf("Into(%v, %t, %v, %d): %v, error %d, not %v", n, six, a, router, l, why, want)
		}
	}
}

// refused asks all calls of nets for an error, and for nothing beside it.
func refused(t *testing.T, n api.Net, six bool, a api.Addr) {
	t.Helper()
	if l, why := judge.Fates(n, six, a); len(l) != 0 || why != api.ErrForm {
		t.Errorf("Fates(%v, %t, %v): %v, error %d", n, six, a, l, why)
	}
	if l, why := judge.Loops(n, six, a); len(l) != 0 || why != api.ErrForm {
		t.Errorf("Loops(%v, %t, %v): %v, error %d", n, six, a, l, why)
	}
	for _, router := range someRouters {
		if l, why := judge.Into(n, six, a, router); len(l) != 0 || why != api.ErrForm {
			t.Errorf("Into(%v, %t, %v, %d): %v, error %d", n, six, a, router, l, why)
		}
	}
}

// Samples.

var (
	deliver = api.Action{Kind: api.ActionDeliver}
	discard = api.Action{Kind: api.ActionDiscard}
	by3     = api.Action{Kind: api.ActionForward, Iface: 3}
	ten     = api.Prefix{Addr: api.Addr{Lo: 10 << 24}, Len: 8}
	last4   = api.Addr{Lo: math.MaxUint32}
	last6   = api.Addr{Hi: math.MaxUint64, Lo: math.MaxUint64}
	kinds   = []bool{false, true}
	// wrongAddrs are none of IPv4.
	wrongAddrs  = []api.Addr{{Lo: 1 << 32}, {Hi: 1}, {Lo: math.MaxUint64}, last6}
	someRouters = []int{0, 1, 4, 5, 7, nobody, api.MaxId, api.MaxId + 1, -1, math.MinInt, math.MaxInt}
)

const nobody = 9 // a router that none of the small nets has

// does is a router that does one thing with all packets of both kinds.
func does(id int, a api.Action, links ...api.Link) api.Router {
	routes := []api.Route{{Prefix: api.Prefix{}, Action: a}, {Prefix: api.Prefix{Six: true}, Action: a}}
	return api.Router{Id: id, Up: true, Routes: routes, Links: links}
}

func to(id, peer int) api.Router { return does(id, by3, api.Link{Iface: 3, Peer: peer}) }

// knowsNothing has a link, but no route.
func knowsNothing(id int) api.Router {
	return api.Router{Id: id, Up: true, Links: []api.Link{{Iface: 3, Peer: 4}}}
}

// seated is a right net of right routers that rise.
func seated(l ...api.Router) api.Net {
	n := api.Net{Routers: l}
	for _, r := range l {
		n.Seats = append(n.Seats, api.Seat{Router: r.Id, Seq: 3, Time: 7, Up: r.Up})
	}
	return n
}

// eachSmall tells all nets of up to four routers, each of which delivers, knows nothing, or sends to one of them, itself too, or to nobody.
func eachSmall(tell func(api.Net)) {
	for many := range 5 {
		all := []int{0, 4, 5, api.MaxId}[:many]
		var grow func(l []api.Router)
		grow = func(l []api.Router) {
			if len(l) == many {
				tell(seated(slices.Clone(l)...))
				return
			}
			id := all[len(l)]
			for _, r := range []api.Router{does(id, deliver), knowsNothing(id), to(id, nobody)} {
				grow(append(l, r))
			}
			for _, peer := range all {
				grow(append(l, to(id, peer)))
			}
		}
		grow(nil)
	}
}

// crowd is as many routers as there may be, each of which sends to the one that next tells.
func crowd(next func(id int) int) api.Net {
	var l []api.Router
	for id := range api.MaxRouters {
		l = append(l, to(id, next(id)))
	}
	return seated(l...)
}

// pairs go round two by two: 0 and 63, 1 and 62, and so on.
func pairs() api.Net { return crowd(func(id int) int { return 63 - id }) }

// ring is one loop of as many routers as there may be, by falling Ids.
func ring() api.Net { return crowd(func(id int) int { return (id + 63) % 64 }) }

// crossed goes round by 10.0.0.0/8, delivers by 10.1.0.0/16, and by IPv6 goes round elsewhere.
func crossed() api.Net {
	part := api.Prefix{Addr: api.Addr{Lo: 10<<24 + 1<<16}, Len: 16}
	all6 := api.Prefix{Six: true}
	routes := func(four, one, six api.Action) []api.Route {
		return []api.Route{{Prefix: ten, Action: four}, {Prefix: part, Action: one}, {Prefix: all6, Action: six}}
	}
	by5 := api.Action{Kind: api.ActionForward, Iface: 5}
	return seated(
		api.Router{Id: 2, Up: true, Routes: routes(by3, by3, discard), Links: []api.Link{{Iface: 3, Peer: 4}}},
		api.Router{Id: 4, Up: true, Routes: routes(by3, deliver, by5), Links: []api.Link{{Iface: 3, Peer: 2}, {Iface: 5, Peer: 7}}},
		api.Router{Id: 5},
		api.Router{Id: 7, Up: true, Routes: routes(by5, by3, by3), Links: []api.Link{{Iface: 3, Peer: 4}, {Iface: 5, Peer: 5}}},
	)
}

// wrongs are nets that are not right.
func wrongs() []api.Net {
	more := pairs()
	more.Seats = append(more.Seats, api.Seat{Router: api.MaxId, Seq: 1})
	more.Routers = append(more.Routers, api.Router{Id: api.MaxId})
	other, down, far := seated(to(4, 4)), seated(to(4, 4)), seated(to(4, 4))
	other.Seats[0].Router = 5
	down.Seats[0].Up = false
	far.Routers[0].Links[0].Peer = api.MaxId + 1
	return []api.Net{
		more, other, down, far,
		seated(to(4, 4), to(4, 4)), seated(to(5, 4), to(4, 5)), seated(to(-1, 4)), seated(to(api.MaxId+1, 4)), seated(to(4, -1)),
		seated(does(4, api.Action{})), seated(does(4, deliver), api.Router{Id: 5, Links: []api.Link{{Iface: 3, Peer: 4}}}),
		{Seats: other.Seats}, {Routers: other.Routers}, {Seats: make([]api.Seat, 1<<16), Routers: make([]api.Router, 1<<16)},
	}
}

// someNet is a right net by chance, most of whose routers send on, to one of few.
func someNet(r *rand.Rand) api.Net {
	var l []api.Router
	many := 1 + r.Intn(24)
	for id := range many {
		x := to(2*id, 2*r.Intn(many))
		switch r.Intn(24) {
		case 0:
			x = does(2*id, []api.Action{deliver, discard, by3}[r.Intn(3)])
		case 1:
			x = api.Router{Id: 2 * id}
		case 2:
			x = to(2*id, r.Intn(99))
		case 3, 4, 5: // 10.0.0.0/8 has a way of its own
			x.Links = append(x.Links, api.Link{Iface: 4, Peer: 2 * r.Intn(many)})
			x.Routes = slices.Insert(x.Routes, 1, api.Route{Prefix: ten, Action: api.Action{Kind: api.ActionForward, Iface: 4}})
		}
		l = append(l, x)
	}
	return seated(l...)
}

// eachNet tells many right nets, and addresses.
func eachNet(tell func(n api.Net, six bool, a api.Addr)) {
	eachSmall(func(n api.Net) { tell(n, false, last4) })
	r := rand.New(rand.NewSource(241))
	for range 150 {
		n := someNet(r)
		tell(n, false, ten.Addr)
		tell(n, false, last4)
		tell(n, true, last6)
	}
	for _, n := range []api.Net{{}, pairs(), ring(), crossed(), seated(api.Router{Id: 4})} {
		for _, six := range kinds {
			tell(n, six, ten.Addr)
			tell(n, six, api.Addr{})
		}
		tell(n, false, api.Addr{Lo: 10<<24 + 1<<16})
		tell(n, true, api.Addr{Hi: 1})
	}
}

// 24.1

func looping(router, at int) api.Fate { return fate(router, api.VerdictLooping, at) }

func fate(router int, kind api.VerdictKind, at int) api.Fate {
	return api.Fate{Router: router, Verdict: api.Verdict{Kind: kind, At: at}}
}

func TestExample(t *testing.T) {
	n := seated(to(4, 7), to(5, 7), to(7, 4))
	loops, why := judge.Loops(n, false, ten.Addr)
	if !sameLoops(loops, [][]int{{4, 7}}) || why != api.OK {
		t.Errorf("Loops: %v, error %d", loops, why)
	}
	fates, why := judge.Fates(n, false, ten.Addr)
	if !slices.Equal(fates, []api.Fate{looping(4, 4), looping(5, 7), looping(7, 7)}) || why != api.OK {
		t.Errorf("Fates: %v, error %d", fates, why)
	}
}

// hand is what is told of a net by hand.
type hand struct {
	net   api.Net
	six   bool
	addr  api.Addr
	fates []api.Fate
	loops [][]int
	into  map[int][]int
}

func byHand() []hand {
	delivered, discarded, lost := api.VerdictDelivered, api.VerdictDiscarded, api.VerdictLost
	part := api.Addr{Lo: 10<<24 + 1<<16}
	return []hand{
		{into: map[int][]int{0: nil, 4: nil, -1: nil, api.MaxId + 1: nil}},
		{six: true, addr: last6, into: map[int][]int{0: nil}},
		{net: seated(api.Router{Id: 4}), fates: []api.Fate{fate(4, lost, 4)}, into: map[int][]int{4: {4}, 5: nil}},
		{net: seated(to(4, 4)), fates: []api.Fate{looping(4, 4)}, loops: [][]int{{4}}, into: map[int][]int{4: {4}}},
		{net: seated(to(0, 0), to(api.MaxId, api.MaxId)), fates: []api.Fate{looping(0, 0), looping(api.MaxId, api.MaxId)}, loops: [][]int{{0}, {api.MaxId}}, into: map[int][]int{0: {0}, api.MaxId: {api.MaxId}}},
		{net: seated(to(4, 9)), fates: []api.Fate{fate(4, lost, 9)}, into: map[int][]int{4: {4}, 9: {4}, 5: nil}},
		{net: seated(to(4, 5), to(5, 7), does(7, deliver), to(8, 7), does(11, discard)), fates: []api.Fate{fate(4, delivered, 7), fate(5, delivered, 7), fate(7, delivered, 7), fate(8, delivered, 7), fate(11, discarded, 11)},
			into: map[int][]int{4: {4}, 5: {4, 5}, 7: {4, 5, 7, 8}, 8: {8}, 11: {11}}},
		{net: seated(to(1, 3), to(2, 1), to(3, 2), to(5, 2), to(6, 8), to(7, 6), to(8, 6)), addr: last4,
			fates: []api.Fate{looping(1, 1), looping(2, 2), looping(3, 3), looping(5, 2), looping(6, 6), looping(7, 6), looping(8, 8)},
			loops: [][]int{{1, 3, 2}, {6, 8}}, into: map[int][]int{1: {1, 2, 3, 5}, 5: {5}, 6: {6, 7, 8}, 8: {6, 7, 8}, 7: {7}}},
		{net: crossed(), addr: ten.Addr, fates: []api.Fate{looping(2, 2), looping(4, 4), fate(5, lost, 5), fate(7, lost, 5)}, loops: [][]int{{2, 4}}, into: map[int][]int{2: {2, 4}, 5: {5, 7}}},
		{net: crossed(), addr: part, fates: []api.Fate{fate(2, delivered, 4), fate(4, delivered, 4), fate(5, lost, 5), fate(7, delivered, 4)}, into: map[int][]int{2: {2}, 4: {2, 4, 7}}},
		{net: crossed(), six: true, addr: part, fates: []api.Fate{fate(2, discarded, 2), looping(4, 4), fate(5, lost, 5), looping(7, 7)}, loops: [][]int{{4, 7}}, into: map[int][]int{2: {2}, 4: {4, 7}}},
		{net: crossed(), addr: last4, fates: []api.Fate{fate(2, lost, 2), fate(4, lost, 4), fate(5, lost, 5), fate(7, lost, 7)}, into: map[int][]int{7: {7}}},
	}
}

func TestNetsByHand(t *testing.T) {
	for _, c := range byHand() {
		if l, why := judge.Fates(c.net, c.six, c.addr); !slices.Equal(l, c.fates) || why != api.OK {
			t.Errorf("Fates(%v, %t, %v): %v, error %d, not %v", c.net, c.six, c.addr, l, why, c.fates)
		}
		if l, why := judge.Loops(c.net, c.six, c.addr); !sameLoops(l, c.loops) || why != api.OK {
			t.Errorf("Loops(%v, %t, %v): %v, error %d, not %v", c.net, c.six, c.addr, l, why, c.loops)
		}
		for router, want := range c.into {
			if l, why := judge.Into(c.net, c.six, c.addr, router); !slices.Equal(l, want) || why != api.OK {
				t.Errorf("Into(%v, %t, %v, %d): %v, error %d, not %v", c.net, c.six, c.addr, router, l, why, want)
			}
		}
	}
}

// As many loops, as long a loop, and as many into one, as there may be.
func TestCrowds(t *testing.T) {
	var all []int
	var two [][]int
	one := []int{0}
	for id := range 64 {
		all = append(all, id)
		if id < 32 {
			two = append(two, []int{id, 63 - id})
		}
		if id > 0 {
			one = append(one, 64-id)
		}
	}
	alone := crowd(func(id int) int { return id })
	star := crowd(func(int) int { return 40 })
	for _, c := range []struct {
		net   api.Net
		loops [][]int
		into  []int // to 40
	}{
		{pairs(), two, []int{23, 40}},
		{ring(), [][]int{one}, all},
		{star, [][]int{{40}}, all},
		{crowd(func(id int) int { return id + 1 }), nil, all[:41]},
		{alone, slices.Collect(slices.Chunk(all, 1)), []int{40}},
	} {
		if l, why := judge.Loops(c.net, true, last6); !sameLoops(l, c.loops) || why != api.OK {
			t.Errorf("Loops: %v, error %d, not %v", l, why, c.loops)
		}
		if l, why := judge.Into(c.net, false, last4, 40); !slices.Equal(l, c.into) || why != api.OK {
			t.Errorf("Into 40: %v, error %d, not %v", l, why, c.into)
		}
		asPlain(t, c.net, false, ten.Addr)
	}
}

func TestManyNets(t *testing.T) {
	eachNet(func(n api.Net, six bool, a api.Addr) { asPlain(t, n, six, a) })
}

func TestNetsThatAreNotRightAreRefused(t *testing.T) {
	for _, n := range wrongs() {
		if net.Check(n) != api.ErrForm {
			t.Fatalf("the sample %v is right", n)
		}
		for _, six := range kinds {
			refused(t, n, six, ten.Addr)
		}
		refused(t, n, false, wrongAddrs[0])
	}
}

func TestAddressesThatAreNotRightAreRefused(t *testing.T) {
	for _, n := range []api.Net{{}, seated(to(4, 4)), crossed(), pairs()} {
		for _, a := range wrongAddrs {
			refused(t, n, false, a)
			asPlain(t, n, true, a) // of IPv6 each is right
		}
		asPlain(t, n, false, last4)
	}
}

// 24.1a

// Of a router that can be none no error is told: it is on no way.
func TestIntoAnyRouter(t *testing.T) {
	for _, n := range []api.Net{{}, seated(to(0, 0)), seated(to(4, nobody)), crossed(), pairs()} {
		for _, router := range []int{-1, math.MinInt, api.MaxId + 1, math.MaxInt, api.MaxId} {
			if l, why := judge.Into(n, false, ten.Addr, router); len(l) != 0 || why != api.OK {
				t.Errorf("Into(%v, %d): %v, error %d", n, router, l, why)
			}
		}
		for _, r := range n.Routers {
			if l, why := judge.Into(n, true, last6, r.Id); !slices.Contains(l, r.Id) || !slices.IsSorted(l) || why != api.OK {
				t.Errorf("Into(%v, %d): %v, error %d", n, r.Id, l, why)
			}
		}
	}
}

// 24.2

// someFates are lists of fates of two routers, up to three of them, in any order.
func someFates() [][]api.Fate {
	var one []api.Fate
	for _, router := range []int{4, 7} {
		one = append(one, fate(router, api.VerdictLost, 4), fate(router, api.VerdictLost, 7), looping(router, 4))
	}
	all := [][]api.Fate{nil}
	for from, many := 0, 0; many < 3; many++ {
		behind := len(all)
		for _, l := range all[from:behind] {
			for _, f := range one {
				all = append(all, append(slices.Clone(l), f))
			}
		}
		from = behind
	}
	return all
}

func TestDifferOfAllShortLists(t *testing.T) {
	all := someFates()
	if len(all) != 1+6+36+216 {
		t.Fatalf("there are %d lists", len(all))
	}
	for _, a := range all {
		for _, b := range all {
			if l, want := judge.Differ(a, b), plainDiffer(a, b); !slices.Equal(l, want) {
				t.Fatalf("Differ(%v, %v): %v, not %v", a, b, l, want)
			}
		}
	}
}

func TestDifferByHand(t *testing.T) {
	lost4, lost5, at7, none := fate(4, api.VerdictLost, 4), fate(5, api.VerdictLost, 5), fate(4, api.VerdictLost, 7), api.Fate{Router: 4}
	delivered := fate(4, api.VerdictDelivered, 4)
	odd := []api.Fate{fate(-1, api.VerdictLost, 0), fate(math.MinInt, 255, -9), fate(math.MaxInt, api.VerdictCount, math.MinInt)}
	for _, c := range []struct {
		a, b []api.Fate
		want []int
	}{
		{nil, nil, nil},
		{nil, []api.Fate{}, nil},
		{[]api.Fate{lost4}, nil, []int{4}},
		{nil, []api.Fate{lost5, lost4}, []int{4, 5}},
		{[]api.Fate{lost4}, []api.Fate{lost4}, nil},
		{[]api.Fate{lost4, lost5}, []api.Fate{lost5, lost4}, nil},
		{[]api.Fate{lost4}, []api.Fate{at7}, []int{4}},
		{[]api.Fate{lost4}, []api.Fate{delivered}, []int{4}},
		{[]api.Fate{none}, []api.Fate{none}, nil},
		{[]api.Fate{none}, nil, []int{4}}, // a verdict of nothing is one
		{nil, []api.Fate{none}, []int{4}},
		{[]api.Fate{lost4, at7}, []api.Fate{lost4}, nil}, // the first one counts
		{[]api.Fate{at7, lost4}, []api.Fate{lost4}, []int{4}},
		{[]api.Fate{lost4}, []api.Fate{at7, lost4}, []int{4}},
		{[]api.Fate{lost4, lost4}, []api.Fate{lost5, lost5}, []int{4, 5}}, // each once
		{odd, nil, []int{math.MinInt, -1, math.MaxInt}},
		{odd, odd, nil},
		{odd[:2], odd[1:], []int{-1, math.MaxInt}},
	} {
		if l := judge.Differ(c.a, c.b); !slices.Equal(l, c.want) {
			t.Errorf("Differ(%v, %v): %v, not %v", c.a, c.b, l, c.want)
		}
	}
}

func TestDifferOfNets(t *testing.T) {
	r := rand.New(rand.NewSource(242))
	for range 200 {
		a, _ := judge.Fates(someNet(r), false, ten.Addr)
		b, _ := judge.Fates(someNet(r), false, ten.Addr)
		if l, want := judge.Differ(a, b), plainDiffer(a, b); !slices.Equal(l, want) {
			t.Fatalf("Differ(%v, %v): %v, not %v", a, b, l, want)
		}
		if l := judge.Differ(a, a); len(l) != 0 {
			t.Fatalf("Differ(%v) with itself: %v", a, l)
		}
	}
}

func TestCount(t *testing.T) {
	all := []api.VerdictKind{api.VerdictNone, api.VerdictDelivered, api.VerdictDiscarded, api.VerdictLost, api.VerdictLooping, api.VerdictCount, 255}
	var l []api.Fate
	for _, kind := range all {
		if many := judge.Count(nil, kind); many != 0 {
			t.Errorf("Count(nothing, %d): %d", kind, many)
		}
	}
	for i, kind := range all { // the first kind once, the next one twice, and so on, one router more than once
		for range i + 1 {
			l = append(l, fate(len(l)%4, kind, i%3))
		}
	}
	for i, kind := range all {
		if many := judge.Count(l, kind); many != i+1 {
			t.Errorf("Count(%v, %d): %d, not %d", l, kind, many, i+1)
		}
	}
	if many := judge.Count(l, 99); many != 0 {
		t.Errorf("Count of no verdict's kind: %d", many)
	}
	fates, _ := judge.Fates(crossed(), false, ten.Addr)
	if round, lost := judge.Count(fates, api.VerdictLooping), judge.Count(fates, api.VerdictLost); round != 2 || lost != 2 {
		t.Errorf("Count(%v): %d are looping, %d lost", fates, round, lost)
	}
}

// 24.3

// roomy is a list with room behind it.
func roomy[T any](l []T) []T {
	return append(make([]T, 0, len(l)+4), l...)
}

// roomyNet is the same net, whose lists have room behind them.
func roomyNet(n api.Net) api.Net {
	n.Seats, n.Routers = roomy(n.Seats), roomy(n.Routers)
	for i, r := range n.Routers {
		n.Routers[i].Routes, n.Routers[i].Links = roomy(r.Routes), roomy(r.Links)
	}
	return n
}

// sameList tells whether a list is another one, and has nothing in the room behind it.
func sameList[T comparable](l, want []T) bool {
	var zero T
	return slices.Equal(l, want) && !slices.ContainsFunc(l[:cap(l)][len(l):], func(x T) bool { return x != zero })
}

// asItWas tells whether a roomy net is still the plain one.
func asItWas(n, plain api.Net) bool {
	is := func(r, want api.Router) bool {
		return r.Id == want.Id && r.Up == want.Up && sameList(r.Routes, want.Routes) && sameList(r.Links, want.Links)
	}
	behind := n.Routers[:cap(n.Routers)][len(n.Routers):]
	return sameList(n.Seats, plain.Seats) && slices.EqualFunc(n.Routers, plain.Routers, is) && !slices.ContainsFunc(behind, func(r api.Router) bool { return !is(r, api.Router{}) })
}

// spoil spoils a list, and the room behind it.
func spoil[T any](l []T, wrong T) {
	for i := range l[:cap(l)] {
		l[:cap(l)][i] = wrong
	}
}

func TestAnswersAreNewMemory(t *testing.T) {
	for _, c := range byHand() {
		n := roomyNet(c.net)
		fates, _ := judge.Fates(n, c.six, c.addr)
		otherFates, _ := judge.Fates(n, c.six, c.addr)
		spoil(otherFates, looping(-7, -7))
		for router, want := range c.into {
			l, _ := judge.Into(n, c.six, c.addr, router)
			other, _ := judge.Into(n, c.six, c.addr, router)
			spoil(other, -7)
			if !slices.Equal(l, want) {
				t.Errorf("Into(%v, %d) shares memory", n, router)
			}
		}
		if !slices.Equal(fates, c.fates) || !asItWas(n, c.net) {
			t.Errorf("%v: a call turned it, or answers share memory", c.net)
		}
		for i := range n.Routers { // the answer is not kept with the net
			n.Routers[i].Id = -7
		}
		if !slices.Equal(fates, c.fates) {
			t.Errorf("Fates(%v) share memory with it", c.net)
		}
	}
}

// No loop shares memory with another one, of the same answer or of another one.
func TestLoopsAreNewMemory(t *testing.T) {
	for _, plain := range []api.Net{pairs(), ring(), crowd(func(id int) int { return id }), crowd(func(id int) int { return id - id%4 + (id+1)%4 }), crossed()} {
		n := roomyNet(plain)
		loops, _ := judge.Loops(n, false, ten.Addr)
		others, _ := judge.Loops(n, false, ten.Addr)
		want := plainLoops(t, n, false, ten.Addr)
		spoil(others[0], -7)
		others[0] = nil
		for i := range loops {
			if !sameLoops(loops[i:], want[i:]) {
				t.Fatalf("Loops(%v): %v, not %v: loops share memory", n, loops[i:], want[i:])
			}
			spoil(loops[i], -7)
		}
		if !asItWas(n, plain) {
			t.Fatalf("%v: Loops turned it", plain)
		}
	}
}

func TestFatesStayAsTheyWere(t *testing.T) {
	plain := []api.Fate{looping(7, 4), fate(4, api.VerdictLost, 4), looping(7, 7)}
	a, b := roomy(plain), roomy(plain[:2])
	l := judge.Differ(a, b[:1])
	other := judge.Differ(a, b[:1])
	judge.Count(a, api.VerdictLost)
	spoil(other, -7)
	if !slices.Equal(l, []int{4}) || !sameList(a, plain) || !slices.Equal(b, plain[:2]) {
		t.Errorf("a call turned fates, or shares memory: %v, %v, %v", l, a, b)
	}
	spoil(a, api.Fate{})
	if !slices.Equal(l, []int{4}) {
		t.Errorf("Differ shares memory with fates: %v", l)
	}
}

func TestWrongNetsStayAsTheyWere(t *testing.T) {
	for _, plain := range wrongs() {
		n := roomyNet(plain)
		judge.Fates(n, false, ten.Addr)
		judge.Loops(n, false, ten.Addr)
		judge.Into(n, false, ten.Addr, 4)
		if !asItWas(n, plain) {
			t.Errorf("a call turned %v", plain)
		}
	}
}

// Nothing of a net is kept: what it is made later is what is told later.
func TestNothingIsKept(t *testing.T) {
	n := seated(to(4, 7), to(5, 7), to(7, 4))
	asPlain(t, n, false, ten.Addr)
	n.Routers[2] = does(7, deliver)
	asPlain(t, n, false, ten.Addr)
	if l, why := judge.Loops(n, false, ten.Addr); len(l) != 0 || why != api.OK {
		t.Errorf("Loops: %v, error %d", l, why)
	}
}

// 24.4

func TestEachFateIsTheVerdictOfAWalk(t *testing.T) {
	eachNet(func(n api.Net, six bool, a api.Addr) {
		l, why := judge.Fates(n, six, a)
		if len(l) != len(n.Routers) || why != api.OK {
			t.Fatalf("Fates(%v, %t, %v): %v, error %d", n, six, a, l, why)
		}
		for i, f := range l {
			_, v, _ := walk.Walk(n, f.Router, six, a)
			if f.Verdict != v || f.Router != n.Routers[i].Id {
				t.Fatalf("Fates(%v, %t, %v): %v at %d, not %v", n, six, a, f, i, v)
			}
		}
	})
}

// 24.5

func TestOnALoopJustIfLoopingAtItself(t *testing.T) {
	many := 0
	eachNet(func(n api.Net, six bool, a api.Addr) {
		loops, _ := judge.Loops(n, six, a)
		on := map[int]int{}
		least := -1
		for i, l := range loops {
			if l[0] <= least || l[0] != slices.Min(l) {
				t.Fatalf("Loops(%v, %t, %v): %v", n, six, a, loops)
			}
			least = l[0]
			for k, router := range l {
				if other, is := on[router]; is {
					t.Fatalf("Loops(%v, %t, %v): %d is on loop %d and on %d", n, six, a, router, other, i)
				}
				on[router] = i
				next := l[(k+1)%len(l)]
				if h, _ := net.Hop(n, router, six, a); h != (api.Hop{Kind: api.HopTo, Peer: next}) {
					t.Fatalf("Loops(%v, %t, %v): %v, and from %d it goes %v", n, six, a, l, router, h)
				}
			}
		}
		many += len(loops)
		fates, _ := judge.Fates(n, six, a)
		for _, f := range fates {
			if _, is := on[f.Router]; is != (f == looping(f.Router, f.Router)) {
				t.Fatalf("Loops(%v, %t, %v): %v, and the fate %v", n, six, a, loops, f)
			}
		}
	})
	if many < 1000 {
		t.Errorf("there were only %d loops", many)
	}
}

// 24.6

func TestTheVerdictOfTheNext(t *testing.T) {
	eachNet(func(n api.Net, six bool, a api.Addr) {
		fates, _ := judge.Fates(n, six, a)
		for _, f := range fates {
			h, _ := net.Hop(n, f.Router, six, a)
			v, is := plainFirst(fates, h.Peer)
			if h.Kind == api.HopTo && is && f != looping(f.Router, f.Router) && f.Verdict != v {
				t.Fatalf("Fates(%v, %t, %v): %v, and that of the next one is %v", n, six, a, f, v)
			}
		}
	})
}

// 24.7

func TestIntoJustIfMeetsSaysSo(t *testing.T) {
	r := rand.New(rand.NewSource(247))
	for range 100 {
		n := someNet(r)
		for router := range 60 {
			l, why := judge.Into(n, false, ten.Addr, router)
			if !slices.IsSorted(l) || why != api.OK {
				t.Fatalf("Into(%v, %d): %v, error %d", n, router, l, why)
			}
			told := 0
			for _, x := range n.Routers {
				is, _ := walk.Meets(n, x.Id, false, ten.Addr, router)
				if is != slices.Contains(l, x.Id) {
					t.Fatalf("Into(%v, %d): %v, and of %d Meets says %t", n, router, l, x.Id, is)
				}
				if is {
					told++
				}
			}
			if told != len(l) {
				t.Fatalf("Into(%v, %d): %v are more than %d", n, router, l, told)
			}
		}
	}
}

// P1, P3, P4

func FuzzAnyNumbers(f *testing.F) {
	f.Add(4, 7, 7, 4, true, uint64(0), uint64(10<<24), 8, uint8(1), 3, 3, 4, false, uint64(0), uint64(10<<24), uint8(4), 4)
	f.Add(0, api.MaxId, api.MaxId, 0, true, uint64(0), uint64(0), 0, uint8(1), 0, 0, api.MaxId, false, uint64(1), uint64(0), uint8(0), api.MaxId+1)
	f.Add(-1, 1<<30, 5, -3, false, uint64(0), uint64(0), 40, uint8(9), -3, 1<<20, -1, true, uint64(1), uint64(0), uint8(200), math.MinInt)
	f.Fuzz(func(t *testing.T, id, peer, otherId, otherPeer int, up bool, hi, lo uint64, long int, action uint8, iface, by, router int, six bool, toHi, toLo uint64, kind uint8, at int) {
		p := api.Prefix{Six: six, Addr: api.Addr{Hi: hi, Lo: lo}, Len: long}
		a := api.Addr{Hi: toHi, Lo: toLo}
		one := api.Router{Id: id, Up: up, Routes: []api.Route{{Prefix: p, Action: api.Action{Kind: api.ActionKind(action), Iface: iface}}}, Links: []api.Link{{Iface: by, Peer: peer}}}
		for _, n := range []api.Net{
			{}, seated(one), seated(one, to(otherId, otherPeer)), seated(to(otherId, otherPeer), one), seated(to(id, peer), to(otherId, otherPeer)), {Routers: []api.Router{one}},
		} {
			if net.Check(n) != api.OK || !addr.Right(six, a) {
				refused(t, n, six, a)
			} else {
				asPlain(t, n, six, a)
			}
			judge.Into(n, six, a, router)
		}
		k := api.VerdictKind(kind)
		some, others := []api.Fate{fate(id, k, at), fate(otherId, k, peer), fate(id, k, peer)}, []api.Fate{fate(otherId, k, at), fate(router, k+1, at)}
		if l, want := judge.Differ(some, others), plainDiffer(some, others); !slices.Equal(l, want) {
			t.Fatalf("Differ(%v, %v): %v, not %v", some, others, l, want)
		}
		if many := judge.Count(some, k); many != 3 {
			t.Fatalf("Count(%v, %d): %d", some, k, many)
		}
	})
}

// Lists of fates of any length, and nets that are far too great, take no longer than their number asks for.
func TestManyFates(t *testing.T) {
	var a, b []api.Fate
	for i := range 1 << 18 {
		a = append(a, looping(i%(1<<16), i%3))
		b = append(b, looping((i+1)%(1<<17), 0))
	}
	want := map[int]struct{}{}
	for router := range 1 << 17 {
		if router >= 1<<16 || router%3 != 0 {
			want[router] = struct{}{}
		}
	}
	if l := judge.Differ(a, b); !slices.Equal(l, slices.Sorted(maps.Keys(want))) {
		t.Errorf("Differ: %d routers, not %d", len(l), len(want))
	}
	if many := judge.Count(a, api.VerdictLooping); many != 1<<18 {
		t.Errorf("Count: %d", many)
	}
	far := api.Net{Seats: make([]api.Seat, 1<<20), Routers: make([]api.Router, 1<<20)}
	for range 1000 {
		if _, why := judge.Fates(far, false, ten.Addr); why != api.ErrForm {
			t.Fatalf("Fates: error %d", why)
		}
	}
}

// Maps are gone through in another order each time; no answer shows it.
func TestAnswersHangOnArgumentsAlone(t *testing.T) {
	for _, n := range []api.Net{pairs(), ring(), crossed()} {
		loops, fates := plainLoops(t, n, false, ten.Addr), plainFates(t, n, false, ten.Addr)
		for range 10 {
			m := roomyNet(n)
			if l, why := judge.Loops(m, false, ten.Addr); !sameLoops(l, loops) || why != api.OK {
				t.Fatalf("Loops turned: %v, error %d", l, why)
			}
			if l, why := judge.Fates(m, false, ten.Addr); !slices.Equal(l, fates) || why != api.OK {
				t.Fatalf("Fates turned: %v, error %d", l, why)
			}
		}
		want := plainDiffer(fates, fates[:len(fates)/2])
		for range 20 {
			if l := judge.Differ(fates, fates[:len(fates)/2]); !slices.Equal(l, want) {
				t.Fatalf("Differ turned: %v, not %v", l, want)
			}
		}
	}
	for _, none := range []api.Net{{}, {Seats: []api.Seat{}, Routers: []api.Router{}}, {Seats: make([]api.Seat, 0, 9), Routers: make([]api.Router, 0, 9)}} {
		asPlain(t, none, false, ten.Addr)
	}
}

func TestNoGoroutineIsLeft(t *testing.T) {
	before := runtime.NumGoroutine()
	for _, n := range append(wrongs(), pairs(), ring(), crossed()) {
		fates, _ := judge.Fates(n, false, ten.Addr)
		judge.Loops(n, false, ten.Addr)
		judge.Into(n, false, ten.Addr, 4)
		judge.Count(fates, api.VerdictLost)
		judge.Differ(fates, nil)
	}
	if after := runtime.NumGoroutine(); after > before {
		t.Errorf("%d goroutines, and %d ahead of the calls", after, before)
	}
}
