package net_test

import (
	"cmp"
	"math"
	"math/rand"
	"runtime"
	"slices"
	"testing"

	"spoor/api"
	"spoor/fib"
	"spoor/msg"
	"spoor/net"
	"spoor/order"
)

// The calls have the signatures of doc/18-net.md.
var (
	_ func(api.Net) api.Errno                                     = net.Check
	_ func(api.Net, int) (api.Router, api.Errno)                  = net.Find
	_ func(api.Net, api.Event, int64) (api.Net, api.Errno)        = net.Apply
	_ func(api.Net, []api.Event, int64) (api.Net, int, api.Errno) = net.All
	_ func(api.Net, int, bool, api.Addr) (api.Hop, api.Errno)     = net.Hop
	_ func(api.Net) (int, api.Errno)                              = net.Size
)

// What follows is plain, by the document's words, which name the calls of order and of fib.

// entry is a router and its seat, as one.
type entry struct {
	seat   api.Seat
	router api.Router
}

// noted are a right net's routers.
func noted(n api.Net) map[int]entry {
	m := map[int]entry{}
	for i, s := range n.Seats {
		m[s.Router] = entry{s, n.Routers[i]}
	}
	return m
}

// netOf is what a map notes, by rising router.
func netOf(m map[int]entry) api.Net {
	var l []entry
	for _, x := range m {
		l = append(l, x)
	}
	slices.SortFunc(l, func(a, b entry) int { return cmp.Compare(a.seat.Router, b.seat.Router) })
	var n api.Net
	for _, x := range l {
		n.Seats, n.Routers = append(n.Seats, x.seat), append(n.Routers, x.router)
	}
	return n
}

func plainSize(n api.Net) int {
	many := 0
	for _, r := range n.Routers {
		many += len(r.Routes)
		many += len(r.Links)
	}
	return many
}

func plainCheck(n api.Net) api.Errno {
	if order.Check(n.Seats) != api.OK || len(n.Seats) != len(n.Routers) {
		return api.ErrForm
	}
	for i, s := range n.Seats {
		r := n.Routers[i]
		if fib.Check(r) != api.OK || r.Id != s.Router || r.Up != s.Up {
			return api.ErrForm
		}
	}
	if plainSize(n) > 1024 {
		return api.ErrForm
	}
	return api.OK
}

// plainApply is of a right net.
func plainApply(n api.Net, e api.Event, horizon int64) (api.Net, api.Errno) {
	switch why := order.May(n.Seats, e, horizon); why {
	case api.OK:
	case api.ErrForm, api.ErrRange:
		return api.Net{}, why
	default:
		return n, why
	}
	m := noted(n)
	x, is := m[e.Router]
	if !is {
		x.router.Id = e.Router
	}
	next, why := fib.Apply(x.router, e)
	if why != api.OK {
		return n, why
	}
	m[e.Router] = entry{api.Seat{Router: e.Router, Seq: e.Seq, Time: e.Time, Up: e.Kind != api.EventDown}, next}
	if then := netOf(m); plainSize(then) <= 1024 {
		return then, api.OK
	}
	return n, api.ErrFull
}

func sameRouter(a, b api.Router) bool {
	return a.Id == b.Id && a.Up == b.Up && slices.Equal(a.Routes, b.Routes) && slices.Equal(a.Links, b.Links)
}

// same tells whether nets are alike: nil and empty lists are.
func same(a, b api.Net) bool {
	return slices.Equal(a.Seats, b.Seats) && slices.EqualFunc(a.Routers, b.Routers, sameRouter)
}

// Samples.

var (
	deliver = api.Action{Kind: api.ActionDeliver}
	discard = api.Action{Kind: api.ActionDiscard}
	by3     = api.Action{Kind: api.ActionForward, Iface: 3}
	actions = []api.Action{deliver, discard, by3}
	ten     = api.Prefix{Addr: api.Addr{Lo: 10 << 24}, Len: 8}
	wide    = api.Prefix{Six: true}
)

// manyRoutes are that many right routes.
func manyRoutes(many int) []api.Route {
	l := make([]api.Route, many)
	for i := range l {
		l[i] = api.Route{Prefix: api.Prefix{Addr: api.Addr{Lo: 10<<24 + uint64(i)<<8}, Len: 24}, Action: actions[i%3]}
	}
	return l
}

// manyLinks are that many right links.
func manyLinks(many int) []api.Link {
	l := make([]api.Link, many)
	for i := range l {
		l[i] = api.Link{Iface: 3 + i, Peer: i * 5 % 9}
	}
	return l
}

// seated is a right net of right routers that rise, whose last events had the Seq 3 and the Time 7.
func seated(l ...api.Router) api.Net {
	n := api.Net{Routers: l}
	for _, r := range l {
		n.Seats = append(n.Seats, api.Seat{Router: r.Id, Seq: 3, Time: 7, Up: r.Up})
	}
	return n
}

// heavy has as many routes and links as there may be, and routers 1 to 4 and 9.
func heavy() api.Net {
	var l []api.Router
	for id := 1; id <= 4; id++ {
		l = append(l, api.Router{Id: id, Up: true, Routes: manyRoutes(250), Links: manyLinks(6)})
	}
	return seated(append(l, api.Router{Id: 9, Up: true})...)
}

// crowded has as many routers as there may be: 0, 3, 6, ...
func crowded() api.Net {
	var l []api.Router
	for i := range api.MaxRouters {
		l = append(l, api.Router{Id: 3 * i, Up: i%2 == 0})
	}
	return seated(l...)
}

// ring is of four routers, one of which is not Up.
func ring() api.Net {
	return seated(
		api.Router{Id: 2, Up: true, Routes: []api.Route{{Prefix: ten, Action: deliver}, {Prefix: wide, Action: by3}}, Links: []api.Link{{Iface: 3, Peer: 4}}},
		api.Router{Id: 4, Up: true, Routes: []api.Route{{Prefix: ten, Action: by3}}, Links: []api.Link{{Iface: 3, Peer: 7}, {Iface: 5, Peer: 2}}},
		api.Router{Id: 5},
		api.Router{Id: 7, Up: true, Routes: []api.Route{{Prefix: ten, Action: discard}}},
	)
}

// rights are right nets.
func rights() []api.Net {
	less := heavy()
	less.Routers[3].Routes = less.Routers[3].Routes[:249]
	full := seated(api.Router{Id: 4, Up: true, Routes: manyRoutes(api.MaxRoutes), Links: manyLinks(api.MaxLinks)})
	ends := seated(api.Router{Id: 0, Up: true}, api.Router{Id: 4}, api.Router{Id: api.MaxId, Up: true, Links: manyLinks(1)})
	ends.Seats[0].Seq, ends.Seats[0].Time = api.MaxSeq, api.MaxTime
	ends.Seats[1].Seq, ends.Seats[1].Time = 1, 0
	return []api.Net{
		{},
		{Seats: []api.Seat{}, Routers: []api.Router{}},
		seated(api.Router{Id: 4}),
		seated(api.Router{Id: 4, Up: true}),
		seated(api.Router{Id: 4, Up: true, Routes: manyRoutes(3), Links: manyLinks(2)}),
		ring(), ends, full, crowded(), heavy(), less,
	}
}

// wrongs are nets that are not right.
func wrongs() []api.Net {
	fine := api.Router{Id: 4, Up: true, Routes: manyRoutes(2), Links: manyLinks(1)}
	seat := api.Seat{Router: 4, Seq: 3, Time: 7, Up: true}
	l := []api.Net{
		{Seats: []api.Seat{seat}},
		{Routers: []api.Router{fine}},
		{Seats: []api.Seat{seat}, Routers: []api.Router{fine, {Id: 5}}},
		{Seats: []api.Seat{seat, {Router: 5, Seq: 1}}, Routers: []api.Router{fine}},
		{Seats: []api.Seat{seat}, Routers: []api.Router{{Id: 5, Up: true}}},
		{Seats: []api.Seat{seat}, Routers: []api.Router{{Id: 4}}},
		{Seats: []api.Seat{{Router: 4, Seq: 3, Time: 7}}, Routers: []api.Router{fine}},
		{Seats: []api.Seat{{Router: 4, Seq: 0, Up: true}}, Routers: []api.Router{fine}},
		{Seats: []api.Seat{{Router: 4, Seq: 1, Time: -1, Up: true}}, Routers: []api.Router{fine}},
		{Seats: []api.Seat{{Router: 4, Seq: api.MaxSeq + 1, Up: true}}, Routers: []api.Router{fine}},
		seated(api.Router{Id: -1}),
		seated(api.Router{Id: api.MaxId + 1}),
		seated(fine, fine),
		seated(api.Router{Id: 5}, fine),
		seated(fine, api.Router{Id: 5, Routes: manyRoutes(1)}),
		seated(fine, api.Router{Id: 5, Links: manyLinks(1)}),
		seated(fine, api.Router{Id: 5, Up: true, Routes: make([]api.Route, 1)}),
		seated(api.Router{Id: 3, Up: true, Links: []api.Link{{Iface: -1}}}, fine),
		seated(api.Router{Id: 3, Up: true, Routes: manyRoutes(api.MaxRoutes + 1)}, fine),
		seated(api.Router{Id: 3, Up: true, Links: manyLinks(api.MaxLinks + 1)}, fine),
		{Seats: make([]api.Seat, 1000), Routers: make([]api.Router, 1000)},
	}
	more := crowded()
	more.Seats = append(more.Seats, api.Seat{Router: api.MaxId, Seq: 1})
	more.Routers = append(more.Routers, api.Router{Id: api.MaxId})
	route, link := heavy(), heavy() // one too many
	route.Routers[4].Routes = manyRoutes(1)
	link.Routers[4].Links = manyLinks(1)
	return append(l, more, route, link)
}

// event is a right one, if its numbers are.
func event(kind api.EventKind, router int, seq uint64, time int64) api.Event {
	e := api.Event{Kind: kind, Router: router, Seq: seq, Time: time}
	switch kind {
	case api.EventAdd:
		e.Prefix, e.Action = ten, by3
	case api.EventWithdraw:
		e.Prefix = ten
	case api.EventLinkUp:
		e.Iface, e.Peer = 3, 7
	case api.EventLinkDown:
		e.Iface = 3
	}
	return e
}

var kinds = []api.EventKind{api.EventUp, api.EventDown, api.EventAdd, api.EventWithdraw, api.EventLinkUp, api.EventLinkDown}

// events are right ones, at the edges of what the samples take.
func events() []api.Event {
	var l []api.Event
	for _, kind := range kinds {
		for _, router := range []int{0, 1, 2, 4, 5, 6, 9, 189, 190, api.MaxId} {
			for _, seq := range []uint64{1, 2, 3, 4, 5, api.MaxSeq} {
				for _, time := range []int64{0, 6, 7, 8, api.MaxTime} {
					l = append(l, event(kind, router, seq, time))
				}
			}
		}
	}
	add, link := event(api.EventAdd, 4, 4, 7), event(api.EventLinkUp, 4, 4, 7)
	for _, i := range []uint64{0, 1, 200, 249, 250, 255, 256} { // such that are there, and such that are not
		add.Prefix, link.Iface = api.Prefix{Addr: api.Addr{Lo: 10<<24 + i<<8}, Len: 24}, 3+int(i)
		l = append(l, add, link)
	}
	return l
}

// wrongEvents are near right ones.
func wrongEvents() []api.Event {
	return []api.Event{
		{}, event(api.EventCount, 4, 4, 7), event(255, 4, 4, 7), event(api.EventUp, -1, 1, 7), event(api.EventUp, api.MaxId+1, 1, 7), event(api.EventUp, math.MaxInt, 1, 7),
		event(api.EventUp, 6, 0, 7), event(api.EventDown, 0, api.MaxSeq+1, api.MaxTime), event(api.EventUp, 6, 1, -1), event(api.EventUp, 6, 1, api.MaxTime+1),
		{Kind: api.EventUp, Router: 6, Seq: 1, Peer: 7}, {Kind: api.EventAdd, Router: 4, Seq: 4, Time: 7}, {Kind: api.EventLinkUp, Router: 4, Seq: 4, Time: 7, Iface: -1},
		{Kind: api.EventWithdraw, Router: 4, Seq: 4, Time: 7, Prefix: api.Prefix{Len: 33}},
	}
}

var (
	horizons      = []int64{-1, 0, 6, 7, api.MaxTime}
	wrongHorizons = []int64{-2, math.MinInt64, api.MaxTime + 1, math.MaxInt64}
	someRouters   = []int{0, 1, 2, 3, 4, 5, 6, 7, 8, 9, 189, 190, api.MaxId, api.MaxId + 1, -1, math.MinInt, math.MaxInt}
)

// 18.1

func TestCheckTakesWhatIsRight(t *testing.T) {
	for _, n := range rights() {
		if plainCheck(n) != api.OK {
			t.Fatalf("the sample %v is wrong", n)
		}
		if why := net.Check(n); why != api.OK {
			t.Errorf("Check(%v): error %d", n, why)
		}
	}
}

func TestCheckRefusesWhatIsNotRight(t *testing.T) {
	for _, n := range wrongs() {
		if plainCheck(n) != api.ErrForm {
			t.Fatalf("the sample %v is right", n)
		}
		if why := net.Check(n); why != api.ErrForm {
			t.Errorf("Check(%v): error %d", n, why)
		}
	}
	for i := range api.MaxRouters {
		for name, spoil := range map[string]func(*api.Net){
			"a seat that is not right":   func(n *api.Net) { n.Seats[i].Seq = 0 },
			"a router that is not right": func(n *api.Net) { n.Routers[i].Links = []api.Link{{Peer: -1}} },
			"another Id":                 func(n *api.Net) { n.Routers[i].Id++ },
			"another Up":                 func(n *api.Net) { n.Seats[i].Up = !n.Seats[i].Up },
		} {
			n := crowded()
			spoil(&n)
			if why := net.Check(n); why != api.ErrForm {
				t.Errorf("Check with %s at %d: error %d", name, i, why)
			}
		}
	}
}

func TestFind(t *testing.T) {
	for _, n := range rights() {
		for _, router := range someRouters {
			want, no := api.Router{}, api.ErrRouter
			if x, is := noted(n)[router]; is {
				want, no = x.router, api.OK
			}
			if r, why := net.Find(n, router); !sameRouter(r, want) || why != no {
				t.Errorf("Find(%v, %d): %v, error %d, not %v, %d", n, router, r, why, want, no)
			}
		}
	}
}

func TestSize(t *testing.T) {
	for _, c := range []struct {
		n    api.Net
		want int
	}{
		{api.Net{}, 0},
		{crowded(), 0},
		{ring(), 7},
		{seated(api.Router{Id: 4, Up: true, Links: manyLinks(2)}), 2},
		{seated(api.Router{Id: 4, Up: true, Routes: manyRoutes(9)}, api.Router{Id: 5, Up: true, Routes: manyRoutes(1), Links: manyLinks(3)}), 13},
		{heavy(), 1024},
	} {
		if many, why := net.Size(c.n); many != c.want || why != api.OK {
			t.Errorf("Size(%v): %d, error %d, not %d", c.n, many, why, c.want)
		}
	}
}

// What is not right is told first, and all else is zero.
func TestNetsThatAreNotRightAreRefused(t *testing.T) {
	some := slices.Concat(wrongEvents(), []api.Event{event(api.EventUp, 6, 1, 8), event(api.EventAdd, 4, 4, 8), event(api.EventDown, 8, 2, 0)})
	for _, n := range wrongs() {
		if many, why := net.Size(n); many != 0 || why != api.ErrForm {
			t.Errorf("Size(%v): %d, error %d", n, many, why)
		}
		for _, router := range someRouters {
			if r, why := net.Find(n, router); !sameRouter(r, api.Router{}) || why != api.ErrForm {
				t.Errorf("Find(%v, %d): %v, error %d", n, router, r, why)
			}
			for _, a := range []api.Addr{ten.Addr, {Hi: 1}} {
				if h, why := net.Hop(n, router, false, a); h != (api.Hop{}) || why != api.ErrForm {
					t.Errorf("Hop(%v, %d, %v): %v, error %d", n, router, a, h, why)
				}
			}
		}
		for _, horizon := range slices.Concat(horizons, wrongHorizons) {
			for _, e := range some {
				if m, why := net.Apply(n, e, horizon); !same(m, api.Net{}) || why != api.ErrForm {
					t.Errorf("Apply(%v, %v, %d): %v, error %d", n, e, horizon, m, why)
				}
			}
			for _, l := range [][]api.Event{nil, some, some[len(some)-1:]} {
				if m, many, why := net.All(n, l, horizon); !same(m, api.Net{}) || many != 0 || why != api.ErrForm {
					t.Errorf("All(%v, %v, %d): %v, %d, error %d", n, l, horizon, m, many, why)
				}
			}
		}
	}
}

// 18.2

func TestExample(t *testing.T) {
	n, why := net.Apply(api.Net{}, event(api.EventUp, 4, 1, 0), -1)
	if why != api.OK {
		t.Fatalf("EventUp: error %d", why)
	}
	n, why = net.Apply(n, event(api.EventLinkUp, 4, 2, 0), -1)
	if why != api.OK || len(n.Routers) != 1 {
		t.Fatalf("its link: %v, error %d", n, why)
	}
	if many, why := net.Size(n); many != 1 || why != api.OK {
		t.Errorf("Size: %d, error %d", many, why)
	}
}

func TestNotRightOrOutOfRange(t *testing.T) {
	fine := []api.Event{event(api.EventUp, 6, 1, 8), event(api.EventAdd, 4, 4, 8), event(api.EventDown, 8, 2, 0)}
	for _, n := range rights() {
		for _, e := range wrongEvents() {
			if msg.Check(e) != api.ErrForm {
				t.Fatalf("the sample %v is right", e)
			}
			for _, horizon := range slices.Concat(horizons, wrongHorizons) {
				if m, why := net.Apply(n, e, horizon); !same(m, api.Net{}) || why != api.ErrForm {
					t.Errorf("Apply(%v, %v, %d): %v, error %d", n, e, horizon, m, why)
				}
			}
		}
		for _, horizon := range wrongHorizons {
			for _, e := range fine {
				if m, why := net.Apply(n, e, horizon); !same(m, api.Net{}) || why != api.ErrRange {
					t.Errorf("Apply(%v, %v, %d): %v, error %d", n, e, horizon, m, why)
				}
			}
		}
	}
}

// turned is a net, one of whose routers has another seat and has something else.
func turned(n api.Net, i int, seat api.Seat, r api.Router) api.Net {
	n = api.Net{Seats: slices.Clone(n.Seats), Routers: slices.Clone(n.Routers)}
	n.Seats[i], n.Routers[i] = seat, r
	return n
}

func TestEachEvent(t *testing.T) {
	n := ring()
	four := n.Routers[1]
	bare := api.Router{Id: 4, Up: true, Routes: four.Routes, Links: four.Links[1:]}
	added := api.Router{Id: 4, Up: true, Routes: append(slices.Clone(four.Routes), api.Route{Prefix: wide, Action: deliver}), Links: four.Links}
	add := event(api.EventAdd, 4, 4, 8)
	add.Prefix, add.Action = wide, deliver
	insert := func(i int, id int) api.Net {
		return api.Net{Seats: slices.Insert(slices.Clone(n.Seats), i, api.Seat{Router: id, Seq: 1, Time: 5, Up: true}), Routers: slices.Insert(slices.Clone(n.Routers), i, api.Router{Id: id, Up: true})}
	}
	for _, c := range []struct {
		e       api.Event
		horizon int64
		want    api.Net
		why     api.Errno
	}{
		{event(api.EventDown, 4, 4, 8), -1, turned(n, 1, api.Seat{Router: 4, Seq: 4, Time: 8}, api.Router{Id: 4}), api.OK},
		{event(api.EventDown, 4, 4, 8), 7, turned(n, 1, api.Seat{Router: 4, Seq: 4, Time: 8}, api.Router{Id: 4}), api.OK},
		{event(api.EventLinkDown, 4, 4, 7), -1, turned(n, 1, api.Seat{Router: 4, Seq: 4, Time: 7, Up: true}, bare), api.OK},
		{add, -1, turned(n, 1, api.Seat{Router: 4, Seq: 4, Time: 8, Up: true}, added), api.OK},
		{event(api.EventUp, 5, 4, 9), -1, turned(n, 2, api.Seat{Router: 5, Seq: 4, Time: 9, Up: true}, api.Router{Id: 5, Up: true}), api.OK},
		{event(api.EventUp, 0, 1, 5), -1, insert(0, 0), api.OK},
		{event(api.EventUp, 3, 1, 5), -1, insert(1, 3), api.OK},
		{event(api.EventUp, 6, 1, 5), -1, insert(3, 6), api.OK},
		{event(api.EventUp, api.MaxId, 1, 5), -1, insert(4, api.MaxId), api.OK},
		{event(api.EventDown, 6, 1, 5), -1, n, api.ErrRouter},
		{event(api.EventUp, 6, 2, 5), -1, n, api.ErrSeq},
		{event(api.EventDown, 4, 3, 8), -1, n, api.ErrSeq},
		{event(api.EventDown, 4, 5, 8), -1, n, api.ErrSeq},
		{event(api.EventDown, 4, 4, 6), -1, n, api.ErrTime},
		{event(api.EventDown, 4, 4, 8), 8, n, api.ErrTime},
		{event(api.EventUp, 6, 1, 5), 5, n, api.ErrTime},
		{event(api.EventUp, 4, 4, 8), -1, n, api.ErrState},
		{event(api.EventDown, 5, 4, 8), -1, n, api.ErrState},
		{event(api.EventLinkUp, 5, 4, 8), -1, n, api.ErrState},
	} {
		if m, why := net.Apply(n, c.e, c.horizon); !same(m, c.want) || why != c.why {
			t.Errorf("Apply(%v, %d): %v, error %d, not %v, %d", c.e, c.horizon, m, why, c.want, c.why)
		}
	}
}

func applyAsPlain(t *testing.T, n api.Net, e api.Event, horizon int64) (api.Net, api.Errno) {
	t.Helper()
	want, no := plainApply(n, e, horizon)
	m, why := net.Apply(n, e, horizon)
	if !same(m, want) || why != no {
		t.Fatalf("Apply(%v, %v, %d): %v, error %d, not %v, %d", n, e, horizon, m, why, want, no)
	}
	return m, why
}

func TestApplyByTheWords(t *testing.T) {
	seen := map[api.Errno]int{}
	for _, n := range rights() {
		for _, e := range events() {
			_, why := applyAsPlain(t, n, e, -1)
			seen[why]++
			if e.Seq == 1 || e.Seq == 4 {
				applyAsPlain(t, n, e, 7)
			}
		}
	}
	for _, why := range []api.Errno{api.OK, api.ErrRouter, api.ErrSeq, api.ErrTime, api.ErrState, api.ErrFull} {
		if seen[why] == 0 {
			t.Errorf("no sample has the error %d", why)
		}
	}
}

// Three kinds of room: for a router, for a router's routes and links, and for those of all together.
func TestFull(t *testing.T) {
	up := event(api.EventUp, 1, 1, 8)
	if m, why := net.Apply(crowded(), up, -1); !same(m, crowded()) || why != api.ErrFull {
		t.Errorf("a router too many: error %d", why)
	}
	full := seated(api.Router{Id: 4, Up: true, Routes: manyRoutes(api.MaxRoutes), Links: manyLinks(api.MaxLinks)})
	link := event(api.EventLinkUp, 4, 4, 8)
	link.Iface = 99
	for _, e := range []api.Event{event(api.EventAdd, 4, 4, 8), link} {
		if m, why := net.Apply(full, e, -1); !same(m, full) || why != api.ErrFull {
			t.Errorf("%v of a full router: error %d", e, why)
		}
	}
	for _, router := range []int{1, 4, 9} {
		link.Router = router
		for _, e := range []api.Event{event(api.EventAdd, router, 4, 8), link} {
			if m, why := net.Apply(heavy(), e, -1); !same(m, heavy()) || why != api.ErrFull {
				t.Errorf("%v of a full net: error %d", e, why)
			}
		}
	}
}

// In a full net what is there may be changed, or go, which leaves room; and a router may begin.
func TestRoomInAFullNet(t *testing.T) {
	n := heavy()
	change, turn := event(api.EventAdd, 2, 4, 8), event(api.EventLinkUp, 2, 4, 8)
	change.Prefix, change.Action = n.Routers[1].Routes[7].Prefix, api.Action{Kind: api.ActionForward, Iface: 9}
	turn.Peer = 99
	for _, e := range []api.Event{change, turn, event(api.EventUp, 6, 1, 8), event(api.EventWithdraw, 9, 4, 8), event(api.EventLinkDown, 9, 4, 8)} {
		m, why := applyAsPlain(t, n, e, -1)
		if many, _ := net.Size(m); many != api.MaxTotal || why != api.OK {
			t.Errorf("%v: %d routes and links, error %d", e, many, why)
		}
	}
	gone := event(api.EventWithdraw, 2, 4, 8)
	gone.Prefix = n.Routers[1].Routes[7].Prefix
	for _, e := range []api.Event{gone, event(api.EventLinkDown, 2, 4, 8), event(api.EventDown, 2, 4, 8)} {
		m, why := net.Apply(n, e, -1)
		if why != api.OK {
			t.Fatalf("%v: error %d", e, why)
		}
		if m, why = net.Apply(m, event(api.EventAdd, 9, 4, 8), -1); why != api.OK {
			t.Errorf("a route behind %v: error %d", e, why)
		}
		if m, why = net.Apply(m, event(api.EventLinkUp, 9, 5, 8), -1); (why != api.ErrFull) == (e.Kind != api.EventDown) {
			t.Errorf("and a link behind %v: %d, error %d", e, plainSize(m), why)
		}
	}
}

// someEvents are of a few routers by chance; nearly all of them fit one behind the other, of an empty net.
func someEvents(r *rand.Rand, many int) []api.Event {
	seqs, times, ups := [5]uint64{}, [5]int64{}, [5]bool{}
	var l []api.Event
	for range many {
		i := r.Intn(5)
		kind := api.EventUp
		if ups[i] {
			kind = kinds[1+r.Intn(5)]
		}
		e := event(kind, i*3, seqs[i]+1, times[i]+int64(r.Intn(3)))
		switch kind {
		case api.EventAdd, api.EventWithdraw:
			e.Prefix = api.Prefix{Six: r.Intn(3) == 0, Len: r.Intn(9)}
		case api.EventLinkUp, api.EventLinkDown:
			e.Iface = r.Intn(5)
		}
		if kind == api.EventAdd {
			e.Action = actions[r.Intn(3)]
		}
		if kind == api.EventLinkUp {
			e.Peer = r.Intn(16)
		}
		seqs[i], times[i], ups[i] = e.Seq, e.Time, kind != api.EventDown
		l = append(l, e)
	}
	return l
}

func TestPlaysByTheWords(t *testing.T) {
	r := rand.New(rand.NewSource(18))
	for range 100 {
		var n api.Net
		horizon := int64(r.Intn(6) - 1)
		for _, e := range someEvents(r, 80) {
			switch r.Intn(12) {
			case 0:
				e.Seq++
			case 1:
				e.Time = max(e.Time-1, 0)
			case 2:
				e = event(kinds[r.Intn(6)], e.Router, e.Seq, e.Time)
			case 3:
				e = wrongEvents()[r.Intn(len(wrongEvents()))]
			}
			m, why := applyAsPlain(t, n, e, horizon)
			if why != api.ErrForm {
				n = m
			}
		}
	}
}

// allAsApply holds All of a right net against Apply, event by event.
func allAsApply(t *testing.T, n api.Net, l []api.Event, horizon int64) {
	t.Helper()
	want, taken, no := n, 0, api.OK
	for _, e := range l {
		m, why := net.Apply(want, e, horizon)
		if why != api.OK {
			no = why
			break
		}
		want = m
		taken++
	}
	if m, many, why := net.All(n, l, horizon); !same(m, want) || many != taken || why != no {
		t.Fatalf("All(%v, %v, %d): %v, %d, error %d, not %v, %d, %d", n, l, horizon, m, many, why, want, taken, no)
	}
}

func TestAllByCases(t *testing.T) {
	up, link, down := event(api.EventUp, 4, 1, 5), event(api.EventLinkUp, 4, 2, 5), event(api.EventDown, 4, 3, 9)
	linked := api.Net{Seats: []api.Seat{{Router: 4, Seq: 2, Time: 5, Up: true}}, Routers: []api.Router{{Id: 4, Up: true, Links: []api.Link{{Iface: 3, Peer: 7}}}}}
	for _, c := range []struct {
		n       api.Net
		l       []api.Event
		horizon int64
		want    api.Net
		many    int
		why     api.Errno
	}{
		{api.Net{}, nil, -1, api.Net{}, 0, api.OK},
		{heavy(), nil, -1, heavy(), 0, api.OK},
		{ring(), []api.Event{}, api.MaxTime, ring(), 0, api.OK},
		{api.Net{}, []api.Event{up, link}, -1, linked, 2, api.OK},
		{api.Net{}, []api.Event{up, link, down}, -1, api.Net{Seats: []api.Seat{{Router: 4, Seq: 3, Time: 9}}, Routers: []api.Router{{Id: 4}}}, 3, api.OK},
		{api.Net{}, []api.Event{up, link, link, down}, -1, linked, 2, api.ErrSeq},
		{api.Net{}, []api.Event{up, link, {}, down}, -1, linked, 2, api.ErrForm}, // the net then
		{api.Net{}, []api.Event{up, link, event(api.EventUp, 4, 3, 9)}, -1, linked, 2, api.ErrState},
		{api.Net{}, []api.Event{up, link, event(api.EventDown, 4, 3, 4)}, -1, linked, 2, api.ErrTime},
		{api.Net{}, []api.Event{link}, -1, api.Net{}, 0, api.ErrRouter},
		{api.Net{}, []api.Event{up}, 5, api.Net{}, 0, api.ErrTime},
		{ring(), []api.Event{up}, -2, ring(), 0, api.ErrRange},
		{ring(), []api.Event{{}}, -2, ring(), 0, api.ErrForm},
		{heavy(), []api.Event{event(api.EventDown, 9, 4, 7), event(api.EventUp, 9, 5, 7), event(api.EventAdd, 9, 6, 7)}, -1, turned(heavy(), 4, api.Seat{Router: 9, Seq: 5, Time: 7, Up: true}, api.Router{Id: 9, Up: true}), 2, api.ErrFull},
	} {
		if m, many, why := net.All(c.n, c.l, c.horizon); !same(m, c.want) || many != c.many || why != c.why {
			t.Errorf("All(%v, %v, %d): %v, %d, error %d, not %v, %d, %d", c.n, c.l, c.horizon, m, many, why, c.want, c.many, c.why)
		}
	}
}

func TestAllIsApplyEventByEvent(t *testing.T) {
	r := rand.New(rand.NewSource(182))
	for range 300 {
		l := someEvents(r, r.Intn(60))
		allAsApply(t, api.Net{}, l, -1)
		allAsApply(t, api.Net{}, l, horizons[r.Intn(len(horizons))])
		allAsApply(t, ring(), l, -1)
		broken := slices.Insert(slices.Clone(l), r.Intn(len(l)+1), wrongEvents()[r.Intn(len(wrongEvents()))])
		allAsApply(t, api.Net{}, broken, -1)
		if len(l) > 0 {
			at := r.Intn(len(l))
			allAsApply(t, api.Net{}, slices.Delete(slices.Clone(l), at, at+1), -1)
		}
		cut := r.Intn(len(l) + 1) // all at once, or in two parts
		once, _, why := net.All(api.Net{}, l, -1)
		half, _, _ := net.All(api.Net{}, l[:cut], -1)
		if whole, many, no := net.All(half, l[cut:], -1); !same(whole, once) || why != api.OK || no != api.OK || many != len(l)-cut {
			t.Fatalf("All in two parts: %v, %d, error %d, not %v, %d", whole, many, no, once, why)
		}
	}
}

// 18.3

func TestHopByCases(t *testing.T) {
	for _, c := range []struct {
		router int
		six    bool
		a      api.Addr
		want   api.Hop
	}{
		{2, false, ten.Addr, api.Hop{Kind: api.HopDeliver}},
		{2, true, api.Addr{Hi: 9}, api.Hop{Kind: api.HopTo, Peer: 4}},
		{4, false, ten.Addr, api.Hop{Kind: api.HopTo, Peer: 7}},
		{4, true, ten.Addr, api.Hop{}},
		{4, false, api.Addr{}, api.Hop{}},
		{5, false, ten.Addr, api.Hop{}}, // it is not Up
		{7, false, ten.Addr, api.Hop{Kind: api.HopDiscard}},
		{3, false, ten.Addr, api.Hop{}}, // there is no such router
		{8, true, api.Addr{Hi: 9}, api.Hop{}},
		{-1, false, ten.Addr, api.Hop{}},
		{api.MaxId + 1, false, ten.Addr, api.Hop{}},
	} {
		if h, why := net.Hop(ring(), c.router, c.six, c.a); h != c.want || why != api.OK {
			t.Errorf("Hop(%d, %t, %v): %v, error %d, not %v", c.router, c.six, c.a, h, why, c.want)
		}
	}
}

func TestHopIsTheRouters(t *testing.T) {
	for _, n := range rights() {
		for _, router := range someRouters {
			for _, a := range []api.Addr{{}, ten.Addr, {Lo: 10<<24 + 1<<8}, {Lo: 10<<24 + 2<<8 + 7}, {Lo: math.MaxUint32}, {Lo: 1 << 32}, {Hi: 1}} {
				for _, six := range []bool{false, true} {
					var want api.Hop
					no := api.OK
					if x, is := noted(n)[router]; is {
						want, no = fib.Hop(x.router, six, a)
					} else if !six && (a.Hi > 0 || a.Lo > math.MaxUint32) {
						no = api.ErrForm // of no router, too
					}
					if h, why := net.Hop(n, router, six, a); h != want || why != no {
						t.Fatalf("Hop(%v, %d, %t, %v): %v, error %d, not %v, %d", n, router, six, a, h, why, want, no)
					}
				}
			}
		}
	}
}

// 18.4

// roomy is a list with room behind it, which is anyone's.
func roomy[T any](l []T) []T {
	return append(slices.Clone(l), make([]T, 4)...)[:len(l)]
}

// roomyNet is the same net, with room behind all its lists.
func roomyNet(n api.Net) api.Net {
	n.Seats, n.Routers = roomy(n.Seats), roomy(n.Routers)
	for i, r := range n.Routers {
		n.Routers[i].Routes, n.Routers[i].Links = roomy(r.Routes), roomy(r.Links)
	}
	return n
}

// bare tells whether the room behind a list is as it was.
func bare[T any](l []T, none func(T) bool) bool {
	return !slices.ContainsFunc(l[:cap(l)][len(l):], func(x T) bool { return !none(x) })
}

// asItWas tells whether a net with room is a plain one still, the room behind it, too.
func asItWas(n, plain api.Net) bool {
	is := same(n, plain) && bare(n.Seats, func(s api.Seat) bool { return s == api.Seat{} }) && bare(n.Routers, func(r api.Router) bool { return sameRouter(r, api.Router{}) })
	for _, r := range n.Routers {
		is = is && bare(r.Routes, func(x api.Route) bool { return x == api.Route{} }) && bare(r.Links, func(x api.Link) bool { return x == api.Link{} })
	}
	return is
}

// spoil turns all that a list has room for.
func spoil[T any](l []T, to T) {
	for i := range l[:cap(l)] {
		l[:cap(l)][i] = to
	}
}

func spoilRouter(r api.Router) {
	spoil(r.Routes, api.Route{Prefix: api.Prefix{Len: -7}})
	spoil(r.Links, api.Link{Iface: -7, Peer: -77})
}

func spoilNet(n api.Net) {
	for _, r := range n.Routers {
		spoilRouter(r)
	}
	spoil(n.Seats, api.Seat{Router: -7})
	spoil(n.Routers, api.Router{Id: -7})
}

// sharesNothing has a call change a net, and holds that it leaves it as it was, and answers new memory: what is handed in and what is answered elsewhere are turned, and the answer stays.
func sharesNothing(t *testing.T, name string, plain api.Net, call func(api.Net) api.Net) {
	t.Helper()
	n := roomyNet(plain)
	m, other := call(n), call(n)
	if !asItWas(n, plain) {
		t.Fatalf("%s turned %v: %v", name, plain, n)
	}
	want := roomyNet(m)
	spoilNet(n)
	spoilNet(other)
	if !same(m, want) {
		t.Fatalf("%s of %v shares memory: %v", name, plain, m)
	}
	for i, r := range m.Routers { // and its lists with one another
		spoilRouter(r)
		for k := range m.Routers {
			if k > i && !sameRouter(m.Routers[k], want.Routers[k]) {
				t.Fatalf("%s of %v: routers %d and %d share memory", name, plain, i, k)
			}
		}
	}
}

func TestNetsAreNewMemory(t *testing.T) {
	some := slices.DeleteFunc(events(), func(e api.Event) bool { return e.Time != 7 || e.Seq != 1 && e.Seq != 4 })
	if len(some) == 0 {
		t.Fatal("there are no events")
	}
	for _, n := range slices.Concat(rights(), wrongs()) {
		sharesNothing(t, "All of none", n, func(n api.Net) api.Net { m, _, _ := net.All(n, nil, -1); return m })
		for _, e := range slices.Concat(some, wrongEvents()) {
			sharesNothing(t, "Apply", n, func(n api.Net) api.Net { m, _ := net.Apply(n, e, -1); return m })
			sharesNothing(t, "All of two", n, func(n api.Net) api.Net { m, _, _ := net.All(n, []api.Event{e, e}, -1); return m })
		}
	}
}

func TestRoutersThatAreFoundAreNewMemory(t *testing.T) {
	for _, plain := range rights() {
		for _, x := range plain.Routers {
			n := roomyNet(plain)
			r, _ := net.Find(n, x.Id)
			other, _ := net.Find(n, x.Id)
			spoilRouter(other)
			if !asItWas(n, plain) {
				t.Fatalf("Find(%v, %d) shares memory with the net", plain, x.Id)
			}
			spoilNet(n)
			if !sameRouter(r, x) {
				t.Fatalf("Find(%v, %d) shares memory: %v", plain, x.Id, r)
			}
		}
	}
}

func TestAskingTurnsNothing(t *testing.T) {
	for _, plain := range slices.Concat(rights(), wrongs()) {
		n := roomyNet(plain)
		net.Check(n)
		net.Size(n)
		net.Find(n, 4)
		net.Hop(n, 4, false, ten.Addr)
		if !asItWas(n, plain) {
			t.Fatalf("a call turned %v", plain)
		}
	}
	l := someEvents(rand.New(rand.NewSource(184)), 40)
	was := slices.Clone(l)
	net.All(api.Net{}, l, -1)
	if !slices.Equal(l, was) {
		t.Error("All turned events")
	}
}

// 18.5

// others are the routers and seats of a right net, without one's.
func others(n api.Net, router int) api.Net {
	m := noted(n)
	delete(m, router)
	return netOf(m)
}

func TestRightStaysRight(t *testing.T) {
	for _, n := range rights() {
		for _, e := range events() {
			m, why := net.Apply(n, e, -1)
			if net.Check(m) != api.OK || !same(others(m, e.Router), others(n, e.Router)) {
				t.Fatalf("Apply(%v, %v): %v", n, e, m)
			}
			if why == api.OK {
				seats, _ := order.Next(n.Seats, e, -1)
				if !slices.Equal(m.Seats, seats) {
					t.Fatalf("Apply(%v, %v): the seats %v, not %v", n, e, m.Seats, seats)
				}
			} else if !same(m, n) {
				t.Fatalf("Apply(%v, %v): error %d, and %v", n, e, why, m)
			}
		}
	}
	r := rand.New(rand.NewSource(185))
	for range 100 {
		var n api.Net
		for _, e := range someEvents(r, 60) {
			m, why := net.Apply(n, e, -1)
			if why != api.OK || net.Check(m) != api.OK || !same(others(m, e.Router), others(n, e.Router)) {
				t.Fatalf("Apply(%v, %v): %v, error %d", n, e, m, why)
			}
			n = m
		}
	}
}

// 18.6

func TestEventsOfUnlikeRouters(t *testing.T) {
	some := slices.DeleteFunc(events(), func(e api.Event) bool { return e.Seq != 1 && e.Seq != 4 || e.Time < 7 || e.Time > 8 })
	for _, n := range []api.Net{{}, ring(), rights()[4], crowded(), heavy(), rights()[10]} {
		taken := slices.DeleteFunc(slices.Clone(some), func(e api.Event) bool { _, why := net.Apply(n, e, -1); return why != api.OK })
		for i, a := range taken {
			for _, b := range taken[i+1:] {
				if a.Router != b.Router {
					inBothOrders(t, n, a, b)
				}
			}
		}
	}
	r := rand.New(rand.NewSource(186))
	for range 200 {
		l := someEvents(r, 60)
		n, _, _ := net.All(api.Net{}, l[:58], -1)
		if l[58].Router != l[59].Router {
			inBothOrders(t, n, l[58], l[59])
		}
	}
}

// inBothOrders has two events happen that are taken by themselves. Where there is no room for both, one may be one too many.
func inBothOrders(t *testing.T, n api.Net, a, b api.Event) {
	t.Helper()
	m, many, why := net.All(n, []api.Event{a, b}, -1)
	o, more, no := net.All(n, []api.Event{b, a}, -1)
	hasRoom := plainSize(n)+2 <= api.MaxTotal && len(n.Seats)+2 <= api.MaxRouters
	switch {
	case !hasRoom && (why == api.ErrFull || no == api.ErrFull):
	case why != api.OK || no != api.OK || many != 2 || more != 2 || !same(m, o):
		t.Fatalf("%v and %v: %v, error %d, and turned %v, error %d", a, b, m, why, o, no)
	}
}

// P1, P3, P4

func FuzzAnyNumbers(f *testing.F) {
	f.Add(4, 4, true, true, uint64(3), int64(7), uint64(10<<24), 8, uint8(1), 3, 7, uint8(3), 4, uint64(4), int64(8), int64(-1), false, uint64(0), uint64(10<<24))
	f.Add(4, 5, false, true, uint64(0), int64(-7), uint64(1), 40, uint8(9), -3, -1, uint8(0), 1<<30, uint64(0), int64(-5), int64(math.MinInt64), true, uint64(1), uint64(1))
	f.Add(0, 0, true, true, uint64(1), int64(0), uint64(0), 0, uint8(2), 0, 0, uint8(1), 9, uint64(1), int64(1), int64(0), true, uint64(0), uint64(0))
	f.Fuzz(func(t *testing.T, seat, id int, isUp, isThere bool, seq uint64, time int64, lo uint64, long int, action uint8, iface, peer int, kind uint8, router int, next uint64, now, horizon int64, six bool, hi, to uint64) {
		one := api.Route{Prefix: api.Prefix{Six: six, Addr: api.Addr{Lo: lo}, Len: long}, Action: api.Action{Kind: api.ActionKind(action)}}
		e := event(api.EventKind(kind), router, next, now)
		seats := []api.Seat{{Router: seat, Seq: seq, Time: time, Up: isThere}}
		for _, n := range []api.Net{
			{}, {Seats: seats}, {Seats: seats, Routers: []api.Router{{Id: id, Up: isUp}}},
			{Seats: seats, Routers: []api.Router{{Id: id, Up: isUp, Routes: []api.Route{one}, Links: []api.Link{{Iface: iface, Peer: peer}}}}},
			{Seats: append(slices.Clone(seats), api.Seat{Router: id, Seq: 1}), Routers: []api.Router{{Id: seat, Up: isThere}, {Id: id}}},
		} {
			why := net.Check(n)
			if why != plainCheck(n) {
				t.Fatalf("Check(%v): error %d", n, why)
			}
			if why == api.OK {
				applyAsPlain(t, n, e, horizon)
				allAsApply(t, n, []api.Event{e, e}, horizon)
			} else if m, no := net.Apply(n, e, horizon); !same(m, api.Net{}) || no != api.ErrForm {
				t.Fatalf("Apply(%v, %v, %d): %v, error %d", n, e, horizon, m, no)
			}
			net.All(n, []api.Event{e, e}, horizon)
			net.Find(n, router)
			net.Size(n)
			if h, no := net.Hop(n, id, six, api.Addr{Hi: hi, Lo: to}); no != api.OK && (no != api.ErrForm || h != api.Hop{}) {
				t.Fatalf("Hop(%v, %d): %v, error %d", n, id, h, no)
			}
		}
	})
}

// Many events of a net that is nearly full, and nets that are far too great, take no longer than their number asks for.
func TestManyEvents(t *testing.T) {
	n := heavy()
	var l []api.Event
	for i := range 4 * api.MaxEvents {
		e := event(api.EventAdd, 2, 4+uint64(i), 8)
		e.Prefix = n.Routers[1].Routes[i%250].Prefix
		l = append(l, e)
	}
	if _, many, why := net.All(n, l, -1); many != len(l) || why != api.OK {
		t.Errorf("All: %d, error %d", many, why)
	}
	far := api.Net{Seats: make([]api.Seat, 1<<20), Routers: make([]api.Router, 1<<20)}
	huge := seated(api.Router{Id: 4, Up: true, Routes: make([]api.Route, 1<<20)})
	for range 1000 {
		if why := net.Check(far); why != api.ErrForm {
			t.Fatalf("Check: error %d", why)
		}
		if why := net.Check(huge); why != api.ErrForm {
			t.Fatalf("Check: error %d", why)
		}
	}
}

func TestAnswersHangOnArgumentsAlone(t *testing.T) {
	l := someEvents(rand.New(rand.NewSource(180)), 60)
	n, many, why := net.All(api.Net{}, l, -1)
	for range 3 {
		net.Apply(heavy(), event(api.EventDown, 1, 4, 7), -1)
		for _, none := range []api.Net{{}, {Seats: []api.Seat{}, Routers: []api.Router{}}, {Seats: make([]api.Seat, 0, 9), Routers: make([]api.Router, 0, 9)}} {
			if m, k, no := net.All(none, roomy(l), -1); !same(m, n) || k != many || no != why {
				t.Fatalf("All turned: %v, %d, error %d", m, k, no)
			}
		}
		for _, e := range events()[:50] {
			m, why := net.Apply(ring(), e, -1)
			if o, no := net.Apply(roomyNet(ring()), e, -1); !same(m, o) || why != no {
				t.Fatalf("Apply turned: %v, error %d", o, no)
			}
		}
	}
}

func TestNoGoroutineIsLeft(t *testing.T) {
	before := runtime.NumGoroutine()
	for _, n := range slices.Concat(rights(), wrongs()) {
		net.Check(n)
		net.Find(n, 4)
		net.Size(n)
		net.Hop(n, 4, false, ten.Addr)
		net.All(n, events()[:20], -1)
		for _, e := range wrongEvents() {
			net.Apply(n, e, -1)
		}
	}
	if after := runtime.NumGoroutine(); after > before {
		t.Errorf("%d goroutines, and %d ahead of the calls", after, before)
	}
}
