package fib_test

import (
	"cmp"
	"encoding/binary"
	"maps"
	"math"
	"math/rand"
	"net/netip"
	"runtime"
	"slices"
	"testing"

	"spoor/api"
	"spoor/fib"
	"spoor/msg"
)

// The calls have the signatures of doc/17-fib.md.
var (
	_ func(api.Router) api.Errno                                         = fib.Check
	_ func(int) (api.Router, api.Errno)                                  = fib.Make
	_ func(api.Router, api.Event) (api.Router, api.Errno)                = fib.Apply
	_ func(api.Router, bool, api.Addr) (api.Hop, api.Errno)              = fib.Hop
	_ func(api.Router) (int, api.Errno)                                  = fib.Size
	_ func(a, b api.Router) ([]api.Route, []api.Route, api.Errno)        = fib.Differ
	_ func(api.Router, []api.Route, []api.Route) (api.Router, api.Errno) = fib.Patch
)

// What follows is plain, by the document's words, and by Go's library.

// plainAddr is an address as the library has it, if it is right.
func plainAddr(six bool, a api.Addr) (netip.Addr, bool) {
	var b [16]byte
	binary.BigEndian.PutUint64(b[:8], a.Hi)
	binary.BigEndian.PutUint64(b[8:], a.Lo)
	if six {
		return netip.AddrFrom16(b), true
	}
	return netip.AddrFrom4([4]byte(b[12:])), a.Hi == 0 && a.Lo <= math.MaxUint32
}

// address is that of the library's.
func address(n netip.Addr) api.Addr {
	if n.Is4() {
		b := n.As4()
		return api.Addr{Lo: uint64(binary.BigEndian.Uint32(b[:]))}
	}
	b := n.As16()
	return api.Addr{Hi: binary.BigEndian.Uint64(b[:8]), Lo: binary.BigEndian.Uint64(b[8:])}
}

// plainPrefix is a prefix as the library has it, if it is right.
func plainPrefix(p api.Prefix) (netip.Prefix, bool) {
	a, is := plainAddr(p.Six, p.Addr)
	if !is || p.Len < 0 || p.Len > a.BitLen() {
		return netip.Prefix{}, false
	}
	n := netip.PrefixFrom(a, p.Len)
	return n, n == n.Masked()
}

func plainRoute(r api.Route) bool {
	_, is := plainPrefix(r.Prefix)
	switch r.Action.Kind {
	case api.ActionForward:
		return is && r.Action.Iface >= 0 && r.Action.Iface <= 65536
	case api.ActionDeliver, api.ActionDiscard:
		return is && r.Action.Iface == 0
	}
	return false
}

// plainOrder is that of right prefixes: the library, too, has addresses of IPv4 first.
func plainOrder(a, b api.Route) int {
	p, _ := plainPrefix(a.Prefix)
	q, _ := plainPrefix(b.Prefix)
	return cmp.Or(p.Addr().Compare(q.Addr()), cmp.Compare(p.Bits(), q.Bits()))
}

func plainRoutes(l []api.Route) bool {
	for i, r := range l {
		if !plainRoute(r) || i > 0 && plainOrder(l[i-1], r) >= 0 {
			return false
		}
	}
	return len(l) <= 256
}

func plainLinks(l []api.Link) bool {
	for i, x := range l {
		if x.Iface < 0 || x.Iface > 65536 || x.Peer < 0 || x.Peer > 1048576 || i > 0 && l[i-1].Iface >= x.Iface {
			return false
		}
	}
	return len(l) <= 32
}

func plainCheck(r api.Router) api.Errno {
	if r.Id < 0 || r.Id > 1048576 || !plainRoutes(r.Routes) || !plainLinks(r.Links) || !r.Up && (len(r.Routes) > 0 || len(r.Links) > 0) {
		return api.ErrForm
	}
	return api.OK
}

// same tells whether routers are alike: nil and empty lists are.
func same(a, b api.Router) bool {
	return a.Id == b.Id && a.Up == b.Up && slices.Equal(a.Routes, b.Routes) && slices.Equal(a.Links, b.Links)
}

// routesOf are those that a map notes, in order.
func routesOf(m map[api.Prefix]api.Action) []api.Route {
	var l []api.Route
	for p, a := range m {
		l = append(l, api.Route{Prefix: p, Action: a})
	}
	slices.SortFunc(l, plainOrder)
	return l
}

func notedRoutes(l []api.Route) map[api.Prefix]api.Action {
	m := map[api.Prefix]api.Action{}
	for _, r := range l {
		m[r.Prefix] = r.Action
	}
	return m
}

func linksOf(m map[int]int) []api.Link {
	var l []api.Link
	for _, iface := range slices.Sorted(maps.Keys(m)) {
		l = append(l, api.Link{Iface: iface, Peer: m[iface]})
	}
	return l
}

func notedLinks(l []api.Link) map[int]int {
	m := map[int]int{}
	for _, x := range l {
		m[x.Iface] = x.Peer
	}
	return m
}

// plainApply is of a right router and a right event.
func plainApply(r api.Router, e api.Event) (api.Router, api.Errno) {
	if e.Router != r.Id {
		return r, api.ErrRouter
	}
	if e.Kind == api.EventUp && r.Up || e.Kind != api.EventUp && !r.Up {
		return r, api.ErrState
	}
	routes, links := notedRoutes(r.Routes), notedLinks(r.Links)
	switch e.Kind {
	case api.EventDown:
		return api.Router{Id: r.Id}, api.OK
	case api.EventAdd:
		routes[e.Prefix] = e.Action
	case api.EventWithdraw:
		delete(routes, e.Prefix)
	case api.EventLinkUp:
		links[e.Iface] = e.Peer
	case api.EventLinkDown:
		delete(links, e.Iface)
	}
	if len(routes) > 256 || len(links) > 32 {
		return r, api.ErrFull
	}
	return api.Router{Id: r.Id, Up: true, Routes: routesOf(routes), Links: linksOf(links)}, api.OK
}

// plainHop is of a right router and a right address.
func plainHop(r api.Router, six bool, a api.Addr) api.Hop {
	n, _ := plainAddr(six, a)
	var does api.Action
	long := -1
	for _, x := range r.Routes {
		if p, _ := plainPrefix(x.Prefix); p.Contains(n) && p.Bits() > long {
			does, long = x.Action, p.Bits()
		}
	}
	if long < 0 {
		return api.Hop{}
	}
	switch does.Kind {
	case api.ActionDeliver:
		return api.Hop{Kind: api.HopDeliver}
	case api.ActionDiscard:
		return api.Hop{Kind: api.HopDiscard}
	}
	if peer, is := notedLinks(r.Links)[does.Iface]; is {
		return api.Hop{Kind: api.HopTo, Peer: peer}
	}
	return api.Hop{}
}

// plainLess are the routes of l that others have not.
func plainLess(l, others []api.Route) []api.Route {
	m := notedRoutes(others)
	var some []api.Route
	for _, r := range l {
		if a, is := m[r.Prefix]; !is || a != r.Action {
			some = append(some, r)
		}
	}
	return some
}

// plainPatch is of a right router.
func plainPatch(r api.Router, gone, come []api.Route) (api.Router, api.Errno) {
	if !r.Up && (len(gone) > 0 || len(come) > 0) {
		return r, api.ErrState
	}
	was, m := notedRoutes(r.Routes), notedRoutes(r.Routes)
	for _, g := range gone {
		if a, is := was[g.Prefix]; !is || a != g.Action {
			return r, api.ErrNone
		}
		delete(m, g.Prefix)
	}
	for _, c := range come {
		if !plainRoute(c) {
			return r, api.ErrForm
		}
		m[c.Prefix] = c.Action
		if len(m) > 256 {
			return r, api.ErrFull
		}
	}
	return api.Router{Id: r.Id, Up: r.Up, Routes: routesOf(m), Links: r.Links}, api.OK
}

// Samples.

// Actions: three kinds of them, and two interfaces.
var (
	deliver = api.Action{Kind: api.ActionDeliver}
	discard = api.Action{Kind: api.ActionDiscard}
	by3     = api.Action{Kind: api.ActionForward, Iface: 3}
	by4     = api.Action{Kind: api.ActionForward, Iface: 4}
	actions = []api.Action{deliver, discard, by3, by4}
)

// read is the prefix of a text, by the library.
func read(s string) api.Prefix {
	n := netip.MustParsePrefix(s)
	return api.Prefix{Six: n.Addr().Is6(), Addr: address(n.Addr()), Len: n.Bits()}
}

// route is one of a text.
func route(s string, a api.Action) api.Route {
	return api.Route{Prefix: read(s), Action: a}
}

// at is the address of a text, and whether it is of IPv6.
func at(s string) (bool, api.Addr) {
	n := netip.MustParseAddr(s)
	return n.Is6(), address(n)
}

// manyRoutes are that many right routes, of both kinds.
func manyRoutes(many int) []api.Route {
	m := map[api.Prefix]api.Action{}
	for i := uint64(0); len(m) < many; i++ {
		p := api.Prefix{Addr: api.Addr{Lo: 10<<24 + i<<8}, Len: 24}
		if i%2 > 0 {
			p = api.Prefix{Six: true, Addr: api.Addr{Hi: i << 32, Lo: 0}, Len: 32 + int(i%32)}
		}
		m[p] = actions[i%uint64(len(actions))]
	}
	return routesOf(m)
}

// manyLinks are that many right links.
func manyLinks(many int) []api.Link {
	l := make([]api.Link, many)
	for i := range l {
		l[i] = api.Link{Iface: 3 + i*2, Peer: i * 5 % 9}
	}
	return l
}

// rights are right routers.
func rights() []api.Router {
	some := []api.Route{route("0.0.0.0/0", discard), route("10.0.0.0/8", by3), route("10.128.0.0/9", by4), route("10.128.1.0/24", deliver), route("::/0", by4), route("1::/16", by3), route("1::1/128", deliver)}
	return []api.Router{
		{},
		{Up: true},
		{Id: 4},
		{Id: 4, Up: true},
		{Id: api.MaxId},
		{Id: api.MaxId, Up: true, Routes: []api.Route{}, Links: []api.Link{}},
		{Id: 4, Up: true, Routes: []api.Route{route("10.0.0.0/8", by3)}},
		{Id: 4, Up: true, Links: []api.Link{{Iface: 3, Peer: 7}}},
		{Id: 4, Up: true, Routes: []api.Route{route("10.0.0.0/8", by3)}, Links: []api.Link{{Iface: 3, Peer: 7}}},
		{Id: 4, Up: true, Routes: []api.Route{route("10.0.0.0/8", by3)}, Links: []api.Link{{Iface: 3, Peer: 4}}},
		{Id: 4, Up: true, Routes: []api.Route{route("10.0.0.0/8", deliver)}, Links: []api.Link{{Iface: 3, Peer: 7}}},
		{Id: 4, Up: true, Routes: some},
		{Id: 4, Up: true, Routes: some, Links: []api.Link{{Iface: 3, Peer: 0}, {Iface: 5, Peer: 9}}},
		{Id: 4, Up: true, Routes: some, Links: []api.Link{{Iface: 0, Peer: 2}, {Iface: 3, Peer: api.MaxId}, {Iface: 4, Peer: 7}, {Iface: api.MaxIface, Peer: 4}}},
		{Id: 4, Up: true, Routes: manyRoutes(api.MaxRoutes), Links: manyLinks(3)},
		{Id: 4, Up: true, Routes: manyRoutes(api.MaxRoutes - 1), Links: manyLinks(api.MaxLinks - 1)},
		{Id: 4, Up: true, Routes: some, Links: manyLinks(api.MaxLinks)},
		{Id: 4, Up: true, Routes: manyRoutes(api.MaxRoutes), Links: manyLinks(api.MaxLinks)},
	}
}

// wrongRoutes are not right.
func wrongRoutes() []api.Route {
	return []api.Route{
		{}, {Action: by3, Prefix: api.Prefix{Len: 33}}, {Action: by3, Prefix: api.Prefix{Len: -1}}, {Action: by3, Prefix: api.Prefix{Six: true, Len: 129}},
		{Action: by3, Prefix: api.Prefix{Addr: api.Addr{Lo: 1}, Len: 31}}, {Action: by3, Prefix: api.Prefix{Addr: api.Addr{Hi: 1}, Len: 32}},
		route("10.0.0.0/8", api.Action{}), route("10.0.0.0/8", api.Action{Kind: api.ActionCount}), route("10.0.0.0/8", api.Action{Kind: api.ActionDeliver, Iface: 3}),
		route("10.0.0.0/8", api.Action{Kind: api.ActionForward, Iface: -1}), route("10.0.0.0/8", api.Action{Kind: api.ActionForward, Iface: api.MaxIface + 1}),
	}
}

// wrongs are routers that are not right.
func wrongs() []api.Router {
	one, link := route("10.0.0.0/8", by3), api.Link{Iface: 3, Peer: 7}
	l := []api.Router{
		{Id: -1}, {Id: math.MinInt}, {Id: api.MaxId + 1}, {Id: math.MaxInt}, {Id: -1, Up: true}, {Id: api.MaxId + 1, Up: true, Routes: []api.Route{one}},
		{Id: 4, Routes: []api.Route{one}},
		{Id: 4, Links: []api.Link{link}},
		{Id: 4, Routes: []api.Route{one}, Links: []api.Link{link}},
		{Id: 4, Up: true, Routes: []api.Route{one, one}},
		{Id: 4, Up: true, Routes: []api.Route{route("11.0.0.0/8", deliver), one}, Links: []api.Link{link}},
		{Id: 4, Up: true, Routes: []api.Route{route("::/0", deliver), one}},
		{Id: 4, Up: true, Routes: manyRoutes(api.MaxRoutes + 1)},
		{Id: 4, Up: true, Links: manyLinks(api.MaxLinks + 1)},
		{Id: 4, Up: true, Links: []api.Link{link, link}},
		{Id: 4, Up: true, Links: []api.Link{{Iface: 4, Peer: 7}, link}},
		{Id: 4, Up: true, Routes: make([]api.Route, 1000), Links: make([]api.Link, 1000)},
	}
	for _, r := range wrongRoutes() {
		l = append(l, api.Router{Id: 4, Up: true, Routes: []api.Route{r}, Links: []api.Link{link}})
	}
	for _, x := range []api.Link{{Iface: -1}, {Iface: api.MaxIface + 1}, {Iface: math.MinInt}, {Peer: -1}, {Peer: api.MaxId + 1}, {Peer: math.MaxInt}} {
		l = append(l, api.Router{Id: 4, Up: true, Routes: []api.Route{one}, Links: []api.Link{x}})
	}
	return l
}

func up(router int) api.Event   { return api.Event{Kind: api.EventUp, Router: router, Seq: 1} }
func down(router int) api.Event { return api.Event{Kind: api.EventDown, Router: router, Seq: 1} }

func add(router int, p api.Prefix, a api.Action) api.Event {
	return api.Event{Kind: api.EventAdd, Router: router, Seq: 1, Prefix: p, Action: a}
}

func withdraw(router int, p api.Prefix) api.Event {
	return api.Event{Kind: api.EventWithdraw, Router: router, Seq: 1, Prefix: p}
}

func linkUp(router, iface, peer int) api.Event {
	return api.Event{Kind: api.EventLinkUp, Router: router, Seq: 1, Iface: iface, Peer: peer}
}

func linkDown(router, iface int) api.Event {
	return api.Event{Kind: api.EventLinkDown, Router: router, Seq: 1, Iface: iface}
}

// somePrefixes are those of the samples, and their neighbours.
func somePrefixes() []api.Prefix {
	var l []api.Prefix
	for _, s := range []string{"0.0.0.0/0", "10.0.0.0/8", "10.0.0.0/9", "10.128.0.0/9", "10.128.1.0/24", "255.255.255.255/32", "::/0", "1::/16", "1::1/128", "ffff::/16", "a00::/8"} {
		l = append(l, read(s))
	}
	full := manyRoutes(api.MaxRoutes + 1)
	for _, i := range []int{0, 1, 127, 128, api.MaxRoutes - 1, api.MaxRoutes} {
		l = append(l, full[i].Prefix)
	}
	return l
}

// events are right ones, of the routers of the samples and of others.
func events() []api.Event {
	var l []api.Event
	for _, router := range []int{0, 3, 4, 5, api.MaxId} {
		l = append(l, up(router), down(router))
		for _, p := range somePrefixes() {
			l = append(l, add(router, p, deliver), add(router, p, by3), withdraw(router, p))
		}
		for _, iface := range []int{0, 1, 3, 4, 5, 6, 64, 65, 66, 67, api.MaxIface} {
			l = append(l, linkUp(router, iface, 0), linkUp(router, iface, 7), linkUp(router, iface, api.MaxId), linkDown(router, iface))
		}
	}
	for i := range l {
		l[i].Seq, l[i].Time = 1+uint64(i), int64(i) // they are none of a router's matter
	}
	return l
}

// wrongEvents are near right ones.
func wrongEvents() []api.Event {
	l := []api.Event{
		{}, {Kind: api.EventCount, Router: 4, Seq: 1}, {Kind: 255, Router: 4, Seq: 1}, {Router: 4, Seq: 1},
		up(-1), up(api.MaxId + 1), {Kind: api.EventUp, Router: 4}, {Kind: api.EventUp, Router: 4, Seq: api.MaxSeq + 1},
		{Kind: api.EventDown, Router: 4, Seq: 1, Time: -1}, {Kind: api.EventDown, Router: 4, Seq: 1, Time: api.MaxTime + 1}, {Kind: api.EventDown, Router: 4, Seq: 1, Peer: 1},
		{Kind: api.EventUp, Router: 4, Seq: 1, Prefix: read("10.0.0.0/8")}, {Kind: api.EventUp, Router: 9, Seq: 1, Iface: 1},
		linkUp(4, -1, 7), linkUp(4, api.MaxIface+1, 7), linkUp(4, 3, -1), linkUp(4, 3, api.MaxId+1), linkDown(4, -1), linkDown(4, api.MaxIface+1),
		{Kind: api.EventLinkDown, Router: 4, Seq: 1, Iface: 3, Peer: 7}, withdraw(4, api.Prefix{Len: 33}), withdraw(4, api.Prefix{Addr: api.Addr{Lo: 1}}),
		{Kind: api.EventWithdraw, Router: 4, Seq: 1, Prefix: read("10.0.0.0/8"), Action: by3},
	}
	for _, r := range wrongRoutes() {
		l = append(l, add(4, r.Prefix, r.Action))
	}
	return l
}

// someAddrs are right addresses at the edges of the samples' prefixes, of both kinds.
func someAddrs() (l []netip.Addr) {
	for _, s := range []string{
		"0.0.0.0", "9.255.255.255", "10.0.0.0", "10.0.0.1", "10.1.1.1", "10.127.255.255", "10.128.0.0", "10.128.0.255", "10.128.1.0", "10.128.1.255", "10.128.2.0", "10.255.255.255", "11.0.0.0", "255.255.255.255",
		"::", "::1", "::a00:1", "1::", "1::1", "1::2", "1:ffff::", "2::", "0:ffff:ffff::", "ffff:ffff:ffff:ffff:ffff:ffff:ffff:ffff", "0:1::", "0:3::", "::ffff:10.0.0.1",
	} {
		l = append(l, netip.MustParseAddr(s))
	}
	return l
}

// 17.1

func TestCheckTakesWhatIsRight(t *testing.T) {
	for _, r := range rights() {
		if plainCheck(r) != api.OK {
			t.Fatalf("the sample %v is wrong", r)
		}
		if why := fib.Check(r); why != api.OK {
			t.Errorf("Check(%v): error %d", r, why)
		}
	}
}

func TestCheckRefusesWhatIsNotRight(t *testing.T) {
	for _, r := range wrongs() {
		if plainCheck(r) != api.ErrForm {
			t.Fatalf("the sample %v is right", r)
		}
		if why := fib.Check(r); why != api.ErrForm {
			t.Errorf("Check(%v): error %d", r, why)
		}
	}
}

func TestMake(t *testing.T) {
	for _, id := range []int{0, 1, 4, api.MaxId - 1, api.MaxId} {
		if r, why := fib.Make(id); !same(r, api.Router{Id: id}) || why != api.OK || fib.Check(r) != api.OK {
			t.Errorf("Make(%d): %v, error %d", id, r, why)
		}
	}
	for _, id := range []int{-1, math.MinInt, api.MaxId + 1, math.MaxInt} {
		if r, why := fib.Make(id); !same(r, api.Router{}) || why != api.ErrRange {
			t.Errorf("Make(%d): %v, error %d", id, r, why)
		}
	}
}

func TestSize(t *testing.T) {
	for _, c := range []struct {
		r    api.Router
		want int
	}{
		{api.Router{}, 0},
		{api.Router{Id: 4, Up: true}, 0},
		{api.Router{Id: 4, Up: true, Routes: manyRoutes(5)}, 5},
		{api.Router{Id: 4, Up: true, Links: manyLinks(2)}, 2},
		{api.Router{Id: 4, Up: true, Routes: manyRoutes(7), Links: manyLinks(4)}, 11},
		{api.Router{Id: 4, Up: true, Routes: manyRoutes(api.MaxRoutes), Links: manyLinks(api.MaxLinks)}, 288},
	} {
		if n, why := fib.Size(c.r); n != c.want || why != api.OK {
			t.Errorf("Size(%v): %d, error %d, not %d", c.r, n, why, c.want)
		}
	}
}

// What is not right is told first, and all else is zero.
func TestRoutersThatAreNotRightAreRefused(t *testing.T) {
	fine := rights()[8]
	for _, r := range wrongs() {
		if n, why := fib.Size(r); n != 0 || why != api.ErrForm {
			t.Errorf("Size(%v): %d, error %d", r, n, why)
		}
		for _, e := range slices.Concat(events(), wrongEvents()) {
			if next, why := fib.Apply(r, e); !same(next, api.Router{}) || why != api.ErrForm {
				t.Fatalf("Apply(%v, %v): %v, error %d", r, e, next, why)
			}
		}
		for _, a := range []api.Addr{{}, {Lo: 10 << 24}, {Hi: 1}} {
			for _, six := range []bool{false, true} {
				if h, why := fib.Hop(r, six, a); h != (api.Hop{}) || why != api.ErrForm {
					t.Errorf("Hop(%v): %v, error %d", r, h, why)
				}
			}
		}
		for _, pair := range [][2]api.Router{{r, fine}, {fine, r}, {r, r}, {r, {Id: 9}}, {{Id: 9}, r}} {
			if gone, come, why := fib.Differ(pair[0], pair[1]); len(gone) != 0 || len(come) != 0 || why != api.ErrForm {
				t.Errorf("Differ(%v): %v, %v, error %d", pair, gone, come, why)
			}
		}
		for _, l := range [][]api.Route{nil, fine.Routes, wrongRoutes()} {
			if next, why := fib.Patch(r, l, l); !same(next, api.Router{}) || why != api.ErrForm {
				t.Errorf("Patch(%v, %v): %v, error %d", r, l, next, why)
			}
		}
	}
}

// 17.2

func TestEventsThatAreNotRightAreRefused(t *testing.T) {
	for _, e := range wrongEvents() {
		if msg.Check(e) != api.ErrForm {
			t.Fatalf("the sample %v is right", e)
		}
		for _, r := range rights() {
			if next, why := fib.Apply(r, e); !same(next, api.Router{}) || why != api.ErrForm {
				t.Errorf("Apply(%v, %v): %v, error %d", r, e, next, why)
			}
		}
	}
}

func TestEachEvent(t *testing.T) {
	ten, link := route("10.0.0.0/8", by3), api.Link{Iface: 3, Peer: 7}
	has := api.Router{Id: 4, Up: true, Routes: []api.Route{ten}, Links: []api.Link{link}}
	off, bare := api.Router{Id: 4}, api.Router{Id: 4, Up: true}
	for _, c := range []struct {
		r    api.Router
		e    api.Event
		want api.Router
		why  api.Errno
	}{
		{off, up(4), bare, api.OK},
		{bare, up(4), bare, api.ErrState},
		{has, up(4), has, api.ErrState},
		{has, down(4), off, api.OK},
		{bare, down(4), off, api.OK},
		{off, down(4), off, api.ErrState},
		{off, add(4, ten.Prefix, by3), off, api.ErrState},
		{off, withdraw(4, ten.Prefix), off, api.ErrState},
		{off, linkUp(4, 3, 7), off, api.ErrState},
		{off, linkDown(4, 3), off, api.ErrState},
		{off, up(5), off, api.ErrRouter},
		{off, down(5), off, api.ErrRouter}, // it would be ErrState, too
		{has, up(5), has, api.ErrRouter},
		{has, down(5), has, api.ErrRouter},
		{has, add(0, ten.Prefix, deliver), has, api.ErrRouter},
		{has, linkUp(api.MaxId, 3, 7), has, api.ErrRouter},
		{bare, add(4, ten.Prefix, by3), api.Router{Id: 4, Up: true, Routes: []api.Route{ten}}, api.OK},
		{has, add(4, ten.Prefix, deliver), api.Router{Id: 4, Up: true, Routes: []api.Route{{Prefix: ten.Prefix, Action: deliver}}, Links: has.Links}, api.OK},
		{has, add(4, read("10.0.0.0/7"), by4), api.Router{Id: 4, Up: true, Routes: []api.Route{route("10.0.0.0/7", by4), ten}, Links: has.Links}, api.OK},
		{has, add(4, read("10.0.0.0/9"), by4), api.Router{Id: 4, Up: true, Routes: []api.Route{ten, route("10.0.0.0/9", by4)}, Links: has.Links}, api.OK},
		{has, add(4, read("::/0"), by4), api.Router{Id: 4, Up: true, Routes: []api.Route{ten, route("::/0", by4)}, Links: has.Links}, api.OK},
		{has, withdraw(4, ten.Prefix), api.Router{Id: 4, Up: true, Links: has.Links}, api.OK},
		{has, withdraw(4, read("10.0.0.0/9")), has, api.OK},
		{has, withdraw(4, read("a00::/8")), has, api.OK},
		{bare, withdraw(4, ten.Prefix), bare, api.OK},
		{bare, linkUp(4, 3, 7), api.Router{Id: 4, Up: true, Links: []api.Link{link}}, api.OK},
		{has, linkUp(4, 3, 8), api.Router{Id: 4, Up: true, Routes: has.Routes, Links: []api.Link{{Iface: 3, Peer: 8}}}, api.OK},
		{has, linkUp(4, 2, 4), api.Router{Id: 4, Up: true, Routes: has.Routes, Links: []api.Link{{Iface: 2, Peer: 4}, link}}, api.OK},
		{has, linkDown(4, 3), api.Router{Id: 4, Up: true, Routes: has.Routes}, api.OK},
		{has, linkDown(4, 7), has, api.OK},
		{bare, linkDown(4, 3), bare, api.OK},
	} {
		if r, why := fib.Apply(c.r, c.e); !same(r, c.want) || why != c.why {
			t.Errorf("Apply(%v, %v): %v, error %d, not %v, %d", c.r, c.e, r, why, c.want, c.why)
		}
	}
}

func applyAsPlain(t *testing.T, r api.Router, e api.Event) (api.Router, api.Errno) {
	t.Helper()
	want, no := plainApply(r, e)
	next, why := fib.Apply(r, e)
	if !same(next, want) || why != no {
		t.Fatalf("Apply(%v, %v): %v, error %d, not %v, %d", r, e, next, why, want, no)
	}
	return next, why
}

func TestApplyByTheWords(t *testing.T) {
	seen := map[api.Errno]int{}
	for _, r := range rights() {
		for _, e := range events() {
			if msg.Check(e) != api.OK {
				t.Fatalf("the sample %v is wrong", e)
			}
			_, why := applyAsPlain(t, r, e)
			seen[why]++
		}
	}
	for _, why := range []api.Errno{api.OK, api.ErrRouter, api.ErrState, api.ErrFull} {
		if seen[why] == 0 {
			t.Errorf("no sample has the error %d", why)
		}
	}
}

// MaxRoutes and MaxLinks are taken, and no one more; those that are there are changed all the same, and one that goes leaves room.
func TestUpToTheLimits(t *testing.T) {
	r, _ := fib.Apply(api.Router{Id: 4}, up(4))
	for i, x := range manyRoutes(api.MaxRoutes) {
		next, why := fib.Apply(r, add(4, x.Prefix, x.Action))
		if why != api.OK || len(next.Routes) != i+1 {
			t.Fatalf("route %d: %d routes, error %d", i, len(next.Routes), why)
		}
		r = next
	}
	for i, x := range manyLinks(api.MaxLinks) {
		next, why := fib.Apply(r, linkUp(4, x.Iface, x.Peer))
		if why != api.OK || len(next.Links) != i+1 {
			t.Fatalf("link %d: %d links, error %d", i, len(next.Links), why)
		}
		r = next
	}
	first := r.Routes[0].Prefix
	for _, e := range []api.Event{add(4, read("255.255.255.255/32"), deliver), add(4, read("::/0"), by3), linkUp(4, 0, 7), linkUp(4, api.MaxIface, 7)} {
		if next, why := fib.Apply(r, e); !same(next, r) || why != api.ErrFull {
			t.Errorf("%v: error %d", e, why)
		}
	}
	for _, e := range []api.Event{add(4, first, by4), linkUp(4, 3, 99), withdraw(4, read("::/0")), linkDown(4, 0)} {
		applyAsPlain(t, r, e)
		if n, _ := fib.Apply(r, e); len(n.Routes) != api.MaxRoutes || len(n.Links) != api.MaxLinks {
			t.Errorf("%v: %d routes, %d links", e, len(n.Routes), len(n.Links))
		}
	}
	less, _ := fib.Apply(r, withdraw(4, first))
	less, _ = fib.Apply(less, linkDown(4, 3))
	more, why := fib.Apply(less, add(4, read("255.255.255.255/32"), deliver))
	if len(more.Routes) != api.MaxRoutes || why != api.OK {
		t.Errorf("a route behind one that went: %d routes, error %d", len(more.Routes), why)
	}
	more, why = fib.Apply(more, linkUp(4, 0, 7))
	if len(more.Links) != api.MaxLinks || why != api.OK {
		t.Errorf("a link behind one that went: %d links, error %d", len(more.Links), why)
	}
}

// someEvent is a right event of router 4 by chance, of few prefixes and links.
func someEvent(r *rand.Rand) api.Event {
	p := api.Prefix{Addr: api.Addr{Lo: uint64(r.Intn(4)) << 30}, Len: 2}
	if r.Intn(2) > 0 {
		p = api.Prefix{Six: true, Addr: api.Addr{Hi: uint64(r.Intn(4)) << 62}, Len: 2 + r.Intn(3)}
	}
	iface := r.Intn(6)
	switch r.Intn(12) {
	case 0:
		return up(4)
	case 1:
		return down(4)
	case 2:
		return add(5, p, deliver)
	case 3, 4:
		return withdraw(4, p)
	case 5, 6, 7:
		return linkUp(4, iface, r.Intn(9))
	case 8:
		return linkDown(4, iface)
	}
	return add(4, p, actions[r.Intn(len(actions))])
}

// played is a right router behind events by chance.
func played(r *rand.Rand, many int) api.Router {
	x := api.Router{Id: 4, Up: true}
	for range many {
		if e := someEvent(r); e.Kind != api.EventDown {
			x, _ = fib.Apply(x, e)
		}
	}
	return x
}

func TestPlaysByTheWords(t *testing.T) {
	r := rand.New(rand.NewSource(17))
	for range 300 {
		x := api.Router{Id: 4}
		for range 60 {
			x, _ = applyAsPlain(t, x, someEvent(r))
			a := api.Addr{Lo: uint64(r.Uint32())}
			if h, why := fib.Hop(x, false, a); h != plainHop(x, false, a) || why != api.OK {
				t.Fatalf("Hop(%v, %v): %v, error %d", x, a, h, why)
			}
		}
	}
}

// 17.3

func TestExample(t *testing.T) {
	r, _ := fib.Make(4)
	for _, e := range []api.Event{up(4), linkUp(4, 3, 7), add(4, read("10.0.0.0/8"), by3)} {
		next, why := fib.Apply(r, e)
		if why != api.OK {
			t.Fatalf("Apply(%v, %v): error %d", r, e, why)
		}
		r = next
	}
	six, a := at("10.1.1.1")
	if h, why := fib.Hop(r, six, a); h != (api.Hop{Kind: api.HopTo, Peer: 7}) || why != api.OK {
		t.Errorf("Hop: %v, error %d", h, why)
	}
}

func TestHopByCases(t *testing.T) {
	r := api.Router{Id: 4, Up: true,
		Routes: []api.Route{route("10.0.0.0/8", by3), route("10.64.0.0/10", by4), route("10.64.1.0/24", discard), route("10.64.1.1/32", deliver), route("1::/16", by3), route("1:2::/32", api.Action{Kind: api.ActionForward})},
		Links:  []api.Link{{Iface: 0, Peer: 9}, {Iface: 3, Peer: 4}}}
	for _, c := range []struct {
		to   string
		want api.Hop
	}{
		{"9.255.255.255", api.Hop{}},
		{"10.0.0.0", api.Hop{Kind: api.HopTo, Peer: 4}}, // to itself
		{"10.63.255.255", api.Hop{Kind: api.HopTo, Peer: 4}},
		{"10.64.0.0", api.Hop{}}, // no link of the longest one's interface, whatever the shorter one does
		{"10.64.1.0", api.Hop{Kind: api.HopDiscard}},
		{"10.64.1.1", api.Hop{Kind: api.HopDeliver}},
		{"10.64.1.2", api.Hop{Kind: api.HopDiscard}},
		{"11.0.0.0", api.Hop{}},
		{"::10.64.1.1", api.Hop{}},
		{"1::", api.Hop{Kind: api.HopTo, Peer: 4}},
		{"1:2::", api.Hop{Kind: api.HopTo, Peer: 9}},
		{"2::", api.Hop{}},
	} {
		six, a := at(c.to)
		if h, why := fib.Hop(r, six, a); h != c.want || why != api.OK {
			t.Errorf("Hop to %s: %v, error %d, not %v", c.to, h, why, c.want)
		}
	}
}

func TestHopByTheWords(t *testing.T) {
	seen := map[api.HopKind]int{}
	for _, r := range rights() {
		for _, n := range someAddrs() {
			want := plainHop(r, n.Is6(), address(n))
			seen[want.Kind]++
			if h, why := fib.Hop(r, n.Is6(), address(n)); h != want || why != api.OK {
				t.Errorf("Hop(%v, %v): %v, error %d, not %v", r, n, h, why, want)
			}
		}
	}
	for kind := range api.HopCount {
		if seen[kind] == 0 {
			t.Errorf("no sample has a hop of kind %d", kind)
		}
	}
}

func TestAddressesThatAreNotRightAreRefused(t *testing.T) {
	for _, r := range rights() {
		for _, a := range []api.Addr{{Lo: 1 << 32}, {Lo: math.MaxUint64}, {Hi: 1}, {Hi: math.MaxUint64, Lo: math.MaxUint64}} {
			if h, why := fib.Hop(r, false, a); h != (api.Hop{}) || why != api.ErrForm {
				t.Errorf("Hop(%v, %v): %v, error %d", r, a, h, why)
			}
			if h, why := fib.Hop(r, true, a); h != plainHop(r, true, a) || why != api.OK {
				t.Errorf("Hop(%v, %v) of IPv6: %v, error %d", r, a, h, why)
			}
		}
	}
}

// 17.3a

func TestDifferByCases(t *testing.T) {
	one, two, three := route("10.0.0.0/8", by3), route("10.0.0.0/9", deliver), route("::/0", discard)
	turned := route("10.0.0.0/8", deliver)
	of := func(l ...api.Route) api.Router { return api.Router{Id: 4, Up: true, Routes: l} }
	for _, c := range []struct {
		a, b       api.Router
		gone, come []api.Route
		why        api.Errno
	}{
		{of(), of(), nil, nil, api.OK},
		{of(one, two, three), of(one, two, three), nil, nil, api.OK},
		{of(one), of(), []api.Route{one}, nil, api.OK},
		{of(), of(one, three), nil, []api.Route{one, three}, api.OK},
		{of(one, two), of(two, three), []api.Route{one}, []api.Route{three}, api.OK},
		{of(one, two), of(turned, two), []api.Route{one}, []api.Route{turned}, api.OK}, // one Prefix, and another Action
		{of(one, three), api.Router{Id: 4}, []api.Route{one, three}, nil, api.OK},
		{api.Router{Id: 4}, of(one, three), nil, []api.Route{one, three}, api.OK},
		{api.Router{Id: 4}, api.Router{Id: 4}, nil, nil, api.OK},
		{api.Router{Id: 4, Up: true, Links: manyLinks(4)}, of(), nil, nil, api.OK}, // links are no matter
		{of(one), api.Router{Id: 5}, nil, nil, api.ErrRouter},
		{api.Router{Id: 5, Up: true, Routes: []api.Route{one}}, of(one), nil, nil, api.ErrRouter},
		{api.Router{Id: 0}, api.Router{Id: api.MaxId}, nil, nil, api.ErrRouter},
	} {
		gone, come, why := fib.Differ(c.a, c.b)
		if !slices.Equal(gone, c.gone) || !slices.Equal(come, c.come) || why != c.why {
			t.Errorf("Differ(%v, %v): %v, %v, error %d, not %v, %v, %d", c.a, c.b, gone, come, why, c.gone, c.come, c.why)
		}
	}
}

func differAsPlain(t *testing.T, a, b api.Router) {
	t.Helper()
	gone, come, why := fib.Differ(a, b)
	if a.Id != b.Id {
		if len(gone) != 0 || len(come) != 0 || why != api.ErrRouter {
			t.Fatalf("Differ(%v, %v): %v, %v, error %d", a, b, gone, come, why)
		}
		return
	}
	if !slices.Equal(gone, plainLess(a.Routes, b.Routes)) || !slices.Equal(come, plainLess(b.Routes, a.Routes)) || why != api.OK {
		t.Fatalf("Differ(%v, %v): %v, %v, error %d", a, b, gone, come, why)
	}
}

func TestDifferByTheWords(t *testing.T) {
	for _, a := range rights() {
		for _, b := range rights() {
			differAsPlain(t, a, b)
		}
	}
	r := rand.New(rand.NewSource(173))
	for range 500 {
		differAsPlain(t, played(r, r.Intn(30)), played(r, r.Intn(30)))
	}
}

func TestPatchByCases(t *testing.T) {
	one, two, three := route("10.0.0.0/8", by3), route("10.0.0.0/9", deliver), route("::/0", discard)
	turned := route("10.0.0.0/8", deliver)
	links := []api.Link{{Iface: 3, Peer: 7}}
	of := func(l ...api.Route) api.Router { return api.Router{Id: 4, Up: true, Routes: l, Links: links} }
	off := api.Router{Id: 4}
	full := api.Router{Id: 4, Up: true, Routes: manyRoutes(api.MaxRoutes), Links: links}
	wide, wrong := route("0.0.0.0/0", deliver), route("10.0.0.0/8", api.Action{})
	swapped := slices.Concat([]api.Route{wide}, full.Routes[1:])
	for _, c := range []struct {
		r          api.Router
		gone, come []api.Route
		want       api.Router
		why        api.Errno
	}{
		{off, nil, nil, off, api.OK},
		{off, []api.Route{}, []api.Route{}, off, api.OK},
		{off, []api.Route{one}, nil, off, api.ErrState},
		{off, nil, []api.Route{one}, off, api.ErrState},
		{off, []api.Route{wrong}, []api.Route{wrong}, off, api.ErrState},
		{of(one, two), nil, nil, of(one, two), api.OK},
		{of(one, two), []api.Route{one}, nil, of(two), api.OK},
		{of(one, two), []api.Route{two, one}, nil, of(), api.OK},
		{of(one, two), []api.Route{one, one}, nil, of(two), api.OK},
		{of(one, two), []api.Route{one}, []api.Route{one}, of(one, two), api.OK},
		{of(one, two), []api.Route{one}, []api.Route{three, turned}, of(turned, two, three), api.OK},
		{of(one, two), nil, []api.Route{turned}, of(turned, two), api.OK},
		{of(one, two), nil, []api.Route{turned, one}, of(one, two), api.OK}, // one by one: the last one stays
		{of(one, two), nil, []api.Route{one, turned}, of(turned, two), api.OK},
		{of(one, two), []api.Route{three}, nil, of(one, two), api.ErrNone},
		{of(one, two), []api.Route{turned}, nil, of(one, two), api.ErrNone}, // of that Prefix, but of another Action
		{of(one, two), []api.Route{one, three}, []api.Route{three}, of(one, two), api.ErrNone},
		{of(one, two), []api.Route{wrong}, []api.Route{wrong}, of(one, two), api.ErrNone},
		{of(one, two), []api.Route{one}, []api.Route{wrong}, of(one, two), api.ErrForm},
		{of(one, two), []api.Route{one}, []api.Route{three, wrong}, of(one, two), api.ErrForm},
		{full, nil, []api.Route{wide}, full, api.ErrFull},
		{full, nil, []api.Route{wide, wrong}, full, api.ErrFull},
		{full, nil, []api.Route{wrong, wide}, full, api.ErrForm},
		{full, full.Routes[:1], []api.Route{wide}, api.Router{Id: 4, Up: true, Routes: swapped, Links: links}, api.OK},
		{full, full.Routes[:1], []api.Route{wide, full.Routes[0]}, full, api.ErrFull},
		{full, full.Routes, full.Routes, full, api.OK},
		{full, full.Routes, nil, of(), api.OK},
		{full, nil, full.Routes, full, api.OK},
		{of(), nil, full.Routes, full, api.OK},
		{of(), nil, slices.Concat(full.Routes, full.Routes), full, api.OK},
		{of(one), nil, full.Routes, of(one), api.ErrFull},
	} {
		if r, why := fib.Patch(c.r, c.gone, c.come); !same(r, c.want) || why != c.why {
			t.Errorf("Patch(%v, %v, %v): %v, error %d, not %v, %d", c.r, c.gone, c.come, r, why, c.want, c.why)
		}
	}
}

func TestPatchByTheWords(t *testing.T) {
	r := rand.New(rand.NewSource(1730))
	seen := map[api.Errno]int{}
	for range 3000 {
		x, other := played(r, r.Intn(30)), played(r, r.Intn(30))
		if r.Intn(9) == 0 {
			x = api.Router{Id: 4}
		}
		gone, come := slices.Clone(x.Routes), slices.Clone(other.Routes)
		r.Shuffle(len(gone), func(i, j int) { gone[i], gone[j] = gone[j], gone[i] })
		r.Shuffle(len(come), func(i, j int) { come[i], come[j] = come[j], come[i] })
		gone = gone[:r.Intn(len(gone)+1)]
		if r.Intn(5) == 0 && len(other.Routes) > 0 {
			gone = append(gone, other.Routes[r.Intn(len(other.Routes))])
		}
		if r.Intn(5) == 0 {
			come = slices.Insert(come, r.Intn(len(come)+1), wrongRoutes()[r.Intn(len(wrongRoutes()))])
		}
		want, no := plainPatch(x, gone, come)
		seen[no]++
		if next, why := fib.Patch(x, gone, come); !same(next, want) || why != no {
			t.Fatalf("Patch(%v, %v, %v): %v, error %d, not %v, %d", x, gone, come, next, why, want, no)
		}
	}
	for _, why := range []api.Errno{api.OK, api.ErrState, api.ErrNone, api.ErrForm} {
		if seen[why] == 0 {
			t.Errorf("no sample has the error %d", why)
		}
	}
}

// 17.4

// spoil turns all that a list has room for.
func spoil[T any](l []T, to T) {
	for i := range l[:cap(l)] {
		l[:cap(l)][i] = to
	}
}

// roomy is a list with room behind it, which is anyone's.
func roomy[T any](l []T) []T {
	return append(slices.Clone(l), make([]T, 4)...)[:len(l)]
}

// bare tells whether the room behind a list is as it was.
func bare[T comparable](l []T) bool {
	return slices.Equal(l[:cap(l)][len(l):], make([]T, cap(l)-len(l)))
}

func roomyRouter(r api.Router) api.Router {
	r.Routes, r.Links = roomy(r.Routes), roomy(r.Links)
	return r
}

func spoilRouter(r api.Router) {
	spoil(r.Routes, api.Route{Prefix: api.Prefix{Len: -7}})
	spoil(r.Links, api.Link{Iface: -7, Peer: -77})
}

func copyOf(r api.Router) api.Router {
	r.Routes, r.Links = append([]api.Route(nil), r.Routes...), append([]api.Link(nil), r.Links...)
	return r
}

// sharesNothing has a call change a router, and holds that it leaves it as it was, and answers new memory: what is handed in and what is answered elsewhere are turned, and the answer stays.
func sharesNothing(t *testing.T, name string, plain api.Router, call func(api.Router) api.Router) {
	t.Helper()
	r := roomyRouter(plain)
	next, other := call(r), call(r)
	if !same(r, plain) || !bare(r.Routes) || !bare(r.Links) {
		t.Fatalf("%s turned %v: %v", name, plain, r)
	}
	want := copyOf(next)
	spoilRouter(r)
	spoilRouter(other)
	if !same(next, want) {
		t.Fatalf("%s of %v shares memory: %v", name, plain, next)
	}
}

func TestRoutersAreNewMemory(t *testing.T) {
	come := []api.Route{route("0.0.0.0/0", deliver), route("::/0", discard)}
	for _, r := range slices.Concat(rights(), wrongs()) {
		for _, e := range slices.Concat(events(), wrongEvents()) {
			sharesNothing(t, "Apply", r, func(r api.Router) api.Router { next, _ := fib.Apply(r, e); return next })
		}
		for name, lists := range map[string][2][]api.Route{
			"of nothing": {}, "of what is gone": {r.Routes, nil}, "of what has come": {nil, come}, "of wrong routes": {nil, wrongRoutes()}, "of others": {come, come},
		} {
			gone, come := roomy(lists[0]), roomy(lists[1])
			sharesNothing(t, "Patch "+name, r, func(r api.Router) api.Router { next, _ := fib.Patch(r, gone, come); return next })
			if !slices.Equal(gone, lists[0]) || !slices.Equal(come, lists[1]) || !bare(gone) || !bare(come) {
				t.Fatalf("Patch %s turned a list", name)
			}
		}
	}
}

func TestPatchKeepsNoList(t *testing.T) {
	r := api.Router{Id: 4, Up: true, Routes: manyRoutes(9)}
	gone, come := slices.Clone(r.Routes[2:4]), []api.Route{route("0.0.0.0/0", deliver), route("::/0", discard)}
	next, _ := fib.Patch(r, gone, come)
	want := copyOf(next)
	spoil(gone, api.Route{})
	spoil(come, api.Route{})
	if !same(next, want) {
		t.Error("Patch kept a list")
	}
}

func TestDifferIsNewMemory(t *testing.T) {
	for _, plainA := range rights() {
		for _, plainB := range rights() {
			a, b := roomyRouter(plainA), roomyRouter(plainB)
			gone, come, _ := fib.Differ(a, b)
			other, more, _ := fib.Differ(a, b)
			if !same(a, plainA) || !same(b, plainB) || !bare(a.Routes) || !bare(b.Routes) {
				t.Fatalf("Differ turned %v or %v", plainA, plainB)
			}
			wantGone, wantCome := slices.Clone(gone), slices.Clone(come)
			spoilRouter(a)
			spoilRouter(b)
			spoil(other, api.Route{})
			spoil(more, api.Route{})
			if !slices.Equal(gone, wantGone) || !slices.Equal(come, wantCome) {
				t.Fatalf("Differ(%v, %v) shares memory", plainA, plainB)
			}
			spoil(gone, api.Route{})
			if !slices.Equal(come, wantCome) {
				t.Fatalf("Differ(%v, %v): its lists share memory", plainA, plainB)
			}
		}
	}
}

func TestAskingTurnsNothing(t *testing.T) {
	for _, plain := range slices.Concat(rights(), wrongs()) {
		r := roomyRouter(plain)
		fib.Check(r)
		fib.Size(r)
		fib.Hop(r, false, api.Addr{Lo: 10 << 24})
		fib.Hop(r, true, api.Addr{Hi: 1 << 48})
		if !same(r, plain) || !bare(r.Routes) || !bare(r.Links) {
			t.Fatalf("a call turned %v", plain)
		}
	}
}

// 17.5

func TestRightStaysRight(t *testing.T) {
	r := rand.New(rand.NewSource(175))
	for range 200 {
		x := api.Router{Id: 4}
		for range 80 {
			e := someEvent(r)
			next, why := fib.Apply(x, e)
			if fib.Check(next) != api.OK || next.Id != x.Id {
				t.Fatalf("%v behind %v is %v", x, e, next)
			}
			switch {
			case why != api.OK && !same(next, x):
				t.Fatalf("%v was refused by %v, and left %v", e, x, next)
			case e.Kind == api.EventAdd || e.Kind == api.EventWithdraw:
				if !slices.Equal(next.Links, x.Links) || next.Up != x.Up || !slices.Equal(others(next.Routes, e.Prefix), others(x.Routes, e.Prefix)) {
					t.Fatalf("%v behind %v is %v", x, e, next)
				}
			case e.Kind == api.EventLinkUp || e.Kind == api.EventLinkDown:
				not := func(l api.Link) bool { return l.Iface == e.Iface }
				if !slices.Equal(next.Routes, x.Routes) || next.Up != x.Up || !slices.Equal(slices.DeleteFunc(slices.Clone(next.Links), not), slices.DeleteFunc(slices.Clone(x.Links), not)) {
					t.Fatalf("%v behind %v is %v", x, e, next)
				}
			}
			x = next
		}
	}
}

// others are the routes that are not of a prefix.
func others(l []api.Route, p api.Prefix) []api.Route {
	return slices.DeleteFunc(slices.Clone(l), func(r api.Route) bool { return r.Prefix == p })
}

// 17.6

func TestNothingIsLeftOfASession(t *testing.T) {
	r := rand.New(rand.NewSource(176))
	some := rights()
	for range 50 {
		some = append(some, played(r, 40))
	}
	for _, x := range some {
		if !x.Up {
			continue
		}
		off, why := fib.Apply(x, down(x.Id))
		if why != api.OK || !same(off, api.Router{Id: x.Id}) {
			t.Fatalf("behind its session %v is %v, error %d", x, off, why)
		}
		again, why := fib.Apply(off, up(x.Id))
		if why != api.OK || !same(again, api.Router{Id: x.Id, Up: true}) {
			t.Fatalf("begun again %v is %v, error %d", x, again, why)
		}
		for _, n := range someAddrs() {
			for _, y := range []api.Router{off, again} {
				if h, why := fib.Hop(y, n.Is6(), address(n)); h != (api.Hop{}) || why != api.OK {
					t.Fatalf("%v does %v with a packet, error %d", y, h, why)
				}
			}
		}
	}
}

// 17.7

func TestThereAndBack(t *testing.T) {
	r := rand.New(rand.NewSource(177))
	some := rights()
	for range 100 {
		some = append(some, played(r, 20))
	}
	for _, x := range some {
		for _, p := range somePrefixes() {
			if len(others(x.Routes, p)) == len(x.Routes) {
				thereAndBack(t, x, add(x.Id, p, by3), withdraw(x.Id, p))
			}
		}
		for iface := range 8 {
			if !slices.ContainsFunc(x.Links, func(l api.Link) bool { return l.Iface == iface }) {
				thereAndBack(t, x, linkUp(x.Id, iface, 7), linkDown(x.Id, iface))
			}
		}
	}
}

func thereAndBack(t *testing.T, x api.Router, there, back api.Event) {
	t.Helper()
	with, why := fib.Apply(x, there)
	if why != api.OK {
		return
	}
	if n, _ := fib.Size(with); n != len(x.Routes)+len(x.Links)+1 {
		t.Fatalf("%v with %v is %v", x, there, with)
	}
	if was, why := fib.Apply(with, back); !same(was, x) || why != api.OK {
		t.Fatalf("there and back %v is %v, error %d", x, was, why)
	}
}

// 17.8

func TestPatchedByWhatDiffers(t *testing.T) {
	r := rand.New(rand.NewSource(178))
	some := slices.DeleteFunc(rights(), func(x api.Router) bool { return x.Id != 4 || !x.Up })
	for range 60 {
		some = append(some, played(r, r.Intn(40)))
	}
	for _, a := range some {
		for _, b := range some {
			gone, come, _ := fib.Differ(a, b)
			want := api.Router{Id: 4, Up: true, Routes: b.Routes, Links: a.Links}
			if x, why := fib.Patch(a, gone, come); !same(x, want) || why != api.OK {
				t.Fatalf("Patch(%v) by what differs to %v: %v, error %d", a, b, x, why)
			}
		}
	}
}

// P1, P3, P4

func FuzzAnyNumbers(f *testing.F) {
	f.Add(4, true, uint64(10<<24), 8, uint8(1), 3, 3, 7, uint8(3), 4, uint64(1), int64(5), false, uint64(0), uint64(10<<24))
	f.Add(-1, false, uint64(1), 40, uint8(9), -3, -1, -7, uint8(0), 1<<30, uint64(0), int64(-5), true, uint64(1), uint64(1))
	f.Add(4, true, uint64(0), 0, uint8(2), 0, 0, 0, uint8(6), 4, uint64(9), int64(0), true, uint64(0), uint64(0))
	f.Fuzz(func(t *testing.T, id int, isUp bool, lo uint64, long int, action uint8, by, iface, peer int, kind uint8, router int, seq uint64, time int64, six bool, hi, to uint64) {
		one := api.Route{Prefix: api.Prefix{Six: six, Addr: api.Addr{Lo: lo}, Len: long}, Action: api.Action{Kind: api.ActionKind(action), Iface: by}}
		link := api.Link{Iface: iface, Peer: peer}
		e := api.Event{Kind: api.EventKind(kind), Router: router, Seq: seq, Time: time}
		switch e.Kind {
		case api.EventAdd:
			e.Prefix, e.Action = one.Prefix, one.Action
		case api.EventWithdraw:
			e.Prefix = one.Prefix
		case api.EventLinkUp:
			e.Iface, e.Peer = iface, peer
		case api.EventLinkDown:
			e.Iface = iface
		}
		for _, r := range []api.Router{{Id: id, Up: isUp}, {Id: id, Up: isUp, Routes: []api.Route{one}}, {Id: id, Up: isUp, Routes: []api.Route{one}, Links: []api.Link{link}}, {Id: id, Up: isUp, Links: []api.Link{link, link}}} {
			why := fib.Check(r)
			if why != plainCheck(r) {
				t.Fatalf("Check(%v): error %d", r, why)
			}
			if why == api.OK && msg.Check(e) == api.OK {
				applyAsPlain(t, r, e)
			} else if next, no := fib.Apply(r, e); !same(next, api.Router{}) || no != api.ErrForm {
				t.Fatalf("Apply(%v, %v): %v, error %d", r, e, next, no)
			}
			a := api.Addr{Hi: hi, Lo: to}
			_, is := plainAddr(six, a)
			if h, no := fib.Hop(r, six, a); why == api.OK && is && (h != plainHop(r, six, a) || no != api.OK) || !(why == api.OK && is) && (h != api.Hop{} || no != api.ErrForm) {
				t.Fatalf("Hop(%v, %t, %v): %v, error %d", r, six, a, h, no)
			}
			fib.Size(r)
			fib.Make(id)
			fib.Differ(r, api.Router{Id: router})
			next, no := fib.Patch(r, []api.Route{one}, []api.Route{one})
			if want, whyNot := plainPatch(r, []api.Route{one}, []api.Route{one}); why == api.OK && (!same(next, want) || no != whyNot) {
				t.Fatalf("Patch(%v, %v): %v, error %d, not %v, %d", r, one, next, no, want, whyNot)
			}
		}
	})
}

// Far too many routes, and long lists, take no longer than their number asks for.
func TestManyRoutes(t *testing.T) {
	far := api.Router{Id: 4, Up: true, Routes: make([]api.Route, 1<<20), Links: make([]api.Link, 1<<20)}
	for range 1000 {
		if why := fib.Check(far); why != api.ErrForm {
			t.Fatalf("Check: error %d", why)
		}
	}
	full := api.Router{Id: 4, Up: true, Routes: manyRoutes(api.MaxRoutes)}
	gone := slices.Repeat(full.Routes, 64)
	if r, why := fib.Patch(full, gone, slices.Repeat(full.Routes, 16)); !same(r, full) || why != api.OK {
		t.Errorf("Patch: error %d", why)
	}
}

func TestAnswersHangOnArgumentsAlone(t *testing.T) {
	six, a := at("10.128.1.1")
	x := rights()[13]
	come := []api.Route{route("0.0.0.0/0", deliver), route("2::/16", discard)}
	next, _ := fib.Apply(x, add(4, read("10.0.0.0/16"), deliver))
	patched, _ := fib.Patch(x, x.Routes[:2], come)
	h, _ := fib.Hop(x, six, a)
	for range 3 {
		fib.Apply(rights()[17], down(4))
		for _, y := range []api.Router{copyOf(x), roomyRouter(x)} {
			again, _ := fib.Apply(y, add(4, read("10.0.0.0/16"), deliver))
			once, _ := fib.Patch(y, roomy(x.Routes[:2]), roomy(come))
			k, _ := fib.Hop(y, six, a)
			if !same(again, next) || !same(once, patched) || k != h {
				t.Fatal("an answer turned")
			}
		}
	}
	for _, y := range []api.Router{{Id: 4, Up: true}, {Id: 4, Up: true, Routes: []api.Route{}, Links: []api.Link{}}, {Id: 4, Up: true, Routes: make([]api.Route, 0, 9), Links: make([]api.Link, 0, 9)}} {
		for _, e := range events() {
			applyAsPlain(t, y, e)
		}
	}
}

func TestNoGoroutineIsLeft(t *testing.T) {
	before := runtime.NumGoroutine()
	for _, r := range slices.Concat(rights(), wrongs()) {
		fib.Check(r)
		fib.Size(r)
		fib.Hop(r, false, api.Addr{})
		fib.Differ(r, api.Router{Id: 4})
		fib.Patch(r, r.Routes, r.Routes)
		for _, e := range events() {
			fib.Apply(r, e)
		}
	}
	if after := runtime.NumGoroutine(); after > before {
		t.Errorf("%d goroutines, and %d ahead of the calls", after, before)
	}
}
