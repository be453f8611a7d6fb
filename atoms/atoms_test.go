package atoms_test

import (
	"maps"
	"math"
	"math/big"
	"math/rand"
	"runtime"
	"slices"
	"testing"

	"spoor/addr"
	"spoor/api"
	"spoor/atoms"
	"spoor/net"
	"spoor/past"
	"spoor/span"
)

// The calls have the signatures of doc/22-atoms.md.
var (
	_ func(bool, []api.Addr) api.Errno                           = atoms.Check
	_ func(api.Past, bool) ([]api.Addr, api.Errno)               = atoms.Cuts
	_ func(bool, []api.Addr, api.Prefix) ([]api.Addr, api.Errno) = atoms.Split
	_ func(bool, []api.Addr, api.Addr) (int, api.Errno)          = atoms.Where
	_ func(bool, []api.Addr) ([]api.Span, api.Errno)             = atoms.Spans
	_ func(api.Net, bool) ([][]api.Span, api.Errno)              = atoms.Classes
)

// What follows is plain, by the document's words; addresses are numbers without an end.

func number(a api.Addr) *big.Int {
	n := new(big.Int).SetUint64(a.Hi)
	return n.Lsh(n, 64).Add(n, new(big.Int).SetUint64(a.Lo))
}

func address(n *big.Int) api.Addr {
	return api.Addr{Hi: new(big.Int).Rsh(n, 64).Uint64(), Lo: new(big.Int).And(n, new(big.Int).SetUint64(math.MaxUint64)).Uint64()}
}

// beyond is how many addresses there are.
func beyond(six bool) *big.Int {
	if six {
		return new(big.Int).Lsh(big.NewInt(1), 128)
	}
	return new(big.Int).Lsh(big.NewInt(1), 32)
}

func plainCheck(six bool, cuts []api.Addr) api.Errno {
	if len(cuts) == 0 || len(cuts) > 4096 || number(cuts[0]).Sign() != 0 {
		return api.ErrForm
	}
	for i, a := range cuts {
		if number(a).Cmp(beyond(six)) >= 0 || i > 0 && number(a).Cmp(number(cuts[i-1])) <= 0 {
			return api.ErrForm
		}
	}
	return api.OK
}

// plainSplit is the cuts, and those of right prefixes of the kind.
func plainSplit(six bool, cuts []api.Addr, some ...api.Prefix) []api.Addr {
	noted := map[api.Addr]int{{}: 0}
	for _, a := range cuts {
		noted[a] = 0
	}
	for _, p := range some {
		if p.Six != six {
			continue
		}
		noted[p.Addr] = 0
		wide := beyond(six).BitLen() - 1
		next := new(big.Int).Lsh(big.NewInt(1), uint(wide-p.Len))
		if next.Add(next, number(p.Addr)); next.Cmp(beyond(six)) < 0 {
			noted[address(next)] = 0
		}
	}
	return slices.SortedFunc(maps.Keys(noted), func(a, b api.Addr) int { return number(a).Cmp(number(b)) })
}

func routePrefixes(n api.Net) []api.Prefix {
	var l []api.Prefix
	for _, r := range n.Routers {
		for _, x := range r.Routes {
			l = append(l, x.Prefix)
		}
	}
	return l
}

func plainCuts(p api.Past, six bool) []api.Addr {
	some := routePrefixes(p.Base)
	for _, e := range p.Events {
		if e.Kind == api.EventAdd {
			some = append(some, e.Prefix)
		}
	}
	return plainSplit(six, nil, some...)
}

func plainSpans(six bool, cuts []api.Addr) []api.Span {
	var l []api.Span
	for i, a := range cuts {
		to := beyond(six)
		if i+1 < len(cuts) {
			to = number(cuts[i+1])
		}
		l = append(l, api.Span{From: a, To: address(to.Sub(to, big.NewInt(1)))})
	}
	return l
}

// plainWhere counts the cuts that are not above an address, but for the first one.
func plainWhere(cuts []api.Addr, a api.Addr) int {
	many := -1
	for _, c := range cuts {
		if number(c).Cmp(number(a)) <= 0 {
			many++
		}
	}
	return many
}

// met is what an address meets at each router of a net.
func met(t *testing.T, n api.Net, six bool, a api.Addr) []api.Hop {
	t.Helper()
	l := make([]api.Hop, len(n.Routers))
	for i, r := range n.Routers {
		h, why := net.Hop(n, r.Id, six, a)
		if why != api.OK {
			t.Fatalf("Hop(%v, %d, %t, %v): error %d", n, r.Id, six, a, why)
		}
		l[i] = h
	}
	return l
}

// plainClasses puts each span between neighbours at which a route begins or ends to the first class that meets the same, and makes a row of each class in the end.
func plainClasses(t *testing.T, n api.Net, six bool) ([][]api.Span, api.Errno) {
	t.Helper()
	var hops [][]api.Hop
	var classes [][]api.Span
	for _, s := range plainSpans(six, plainSplit(six, nil, routePrefixes(n)...)) {
		is := met(t, n, six, s.From)
		at := slices.IndexFunc(hops, func(l []api.Hop) bool { return slices.Equal(l, is) })
		if at < 0 {
			at = len(hops)
			hops, classes = append(hops, is), append(classes, nil)
		}
		classes[at] = append(classes[at], s)
	}
	long := false
	for i, l := range classes {
		row := l[:1]
		for _, s := range l[1:] {
			if end := &row[len(row)-1].To; new(big.Int).Add(number(*end), big.NewInt(1)).Cmp(number(s.From)) == 0 {
				*end = s.To
			} else {
				row = append(row, s)
			}
		}
		classes[i] = row
		long = long || len(row) > 1024
	}
	if long {
		return nil, api.ErrLong
	}
	return classes, api.OK
}

func sameClasses(a, b [][]api.Span) bool {
	return slices.EqualFunc(a, b, func(l, m []api.Span) bool { return slices.Equal(l, m) })
}

// Samples.

var (
	deliver = api.Action{Kind: api.ActionDeliver}
	discard = api.Action{Kind: api.ActionDiscard}
	by3     = api.Action{Kind: api.ActionForward, Iface: 3}
	by4     = api.Action{Kind: api.ActionForward, Iface: 4}
	by5     = api.Action{Kind: api.ActionForward, Iface: 5}
	by6     = api.Action{Kind: api.ActionForward, Iface: 6}
	actions = []api.Action{deliver, discard, by3, by4, by5, by6}
	last4   = api.Addr{Lo: math.MaxUint32}
	last6   = api.Addr{Hi: math.MaxUint64, Lo: math.MaxUint64}
	kinds   = []bool{false, true}
)

func last(six bool) api.Addr {
	if six {
		return last6
	}
	return last4
}

func lo(n uint64) api.Addr { return api.Addr{Lo: n} }

func los(l ...uint64) []api.Addr {
	var cuts []api.Addr
	for _, n := range l {
		cuts = append(cuts, lo(n))
	}
	return cuts
}

// four is a prefix of IPv4, if it is right.
func four(n uint64, long int) api.Prefix { return api.Prefix{Addr: lo(n), Len: long} }

// prefixes are right ones of both kinds, at their edges.
func prefixes() []api.Prefix {
	return []api.Prefix{
		four(0, 0), four(0, 1), four(1<<31, 1), four(10<<24, 8), four(10<<24+1<<16, 16), four(11<<24, 8), four(10<<24, 32), four(0, 32), four(math.MaxUint32, 32), four(math.MaxUint32-1, 31), four(127<<24, 8),
		{Six: true}, {Six: true, Len: 1}, {Six: true, Addr: api.Addr{Hi: 1 << 63}, Len: 1}, {Six: true, Addr: api.Addr{Hi: 7}, Len: 64}, {Six: true, Addr: api.Addr{Hi: 7}, Len: 128},
		{Six: true, Addr: api.Addr{Hi: 6, Lo: 1 << 63}, Len: 65}, {Six: true, Addr: last6, Len: 128}, {Six: true, Addr: api.Addr{Hi: math.MaxUint64}, Len: 64}, {Six: true, Addr: lo(math.MaxUint64), Len: 128},
		{Six: true, Addr: lo(10 << 24), Len: 104},
	}
}

// somePrefix is a right prefix by chance; neighbours and parts of one another are likely.
func somePrefix(r *rand.Rand) api.Prefix {
	all := prefixes()
	if p := all[r.Intn(len(all))]; r.Intn(3) == 0 {
		return p
	}
	if r.Intn(3) == 0 {
		long := 58 + r.Intn(13)
		n := new(big.Int).Lsh(big.NewInt(int64(r.Intn(16))), uint(128-long))
		return api.Prefix{Six: true, Addr: address(n), Len: long}
	}
	long := 4 + r.Intn(5)
	return four(uint64(r.Intn(16))<<(32-long), long)
}

// rising are right cuts of that many.
func rising(many int) []api.Addr {
	l := make([]api.Addr, many)
	for i := range l {
		l[i] = lo(uint64(i) * 1000)
	}
	return l
}

// rightCuts are right, of IPv4, or of IPv6.
func rightCuts(six bool) [][]api.Addr {
	l := [][]api.Addr{los(0), los(0, 1), los(0, 10<<24, 11<<24), {{}, last(six)}, los(0, 1, 2, 3, math.MaxUint32-1, math.MaxUint32), rising(100), rising(api.MaxCuts), rising(api.MaxCuts - 1)}
	if six {
		l = append(l, []api.Addr{{}, lo(math.MaxUint64), {Hi: 1}, {Hi: 1, Lo: 1}, {Hi: 1, Lo: math.MaxUint64}, {Hi: math.MaxUint64}, last6}, los(0, 1<<32))
	}
	return l
}

// wrongCuts are none.
func wrongCuts(six bool) [][]api.Addr {
	l := [][]api.Addr{nil, {}, los(1), los(10<<24, 11<<24), los(0, 0), los(0, 1, 1), los(0, 2, 1), {{}, last(six), last(six)}, {{}, last(six), {}}, rising(api.MaxCuts + 1), make([]api.Addr, 1<<20), {{Hi: 1}}}
	if six {
		return append(l, []api.Addr{{}, {Hi: 1}, lo(9)}, []api.Addr{{}, {Hi: 1, Lo: 9}, {Hi: 1, Lo: 8}})
	}
	return append(l, los(0, 1<<32), []api.Addr{{}, {Hi: 1}}, []api.Addr{{}, last4, {Hi: 1}}, los(0, math.MaxUint64))
}

// wrongPrefixes are none of the kind.
func wrongPrefixes(six bool) []api.Prefix {
	l := slices.DeleteFunc(prefixes(), func(p api.Prefix) bool { return p.Six == six })
	return append(l, api.Prefix{Six: six, Len: -1}, api.Prefix{Six: six, Len: 129}, api.Prefix{Six: six, Addr: lo(1), Len: 8}, api.Prefix{Addr: api.Addr{Hi: 1}, Len: 32}, api.Prefix{Len: 33}, api.Prefix{Six: six, Len: math.MinInt})
}

// seated is a right net of right routers that rise, which are Up.
func seated(l ...api.Router) api.Net {
	n := api.Net{Routers: l}
	for i, r := range l {
		n.Seats = append(n.Seats, api.Seat{Router: r.Id, Seq: 3, Time: 7, Up: true})
		n.Routers[i].Up = true
	}
	return n
}

// routesOf are right routes of prefixes, each once, in order.
func routesOf(r *rand.Rand, some ...api.Prefix) []api.Route {
	rank := func(p api.Prefix) int {
		if p.Six {
			return 1
		}
		return 0
	}
	slices.SortFunc(some, func(p, q api.Prefix) int {
		if rank(p) != rank(q) {
			return rank(p) - rank(q)
		}
		if by := number(p.Addr).Cmp(number(q.Addr)); by != 0 {
			return by
		}
		return p.Len - q.Len
	})
	var l []api.Route
	for _, p := range slices.Compact(some) {
		l = append(l, api.Route{Prefix: p, Action: actions[r.Intn(len(actions))]})
	}
	return l
}

// links lead by 3 and by 5 to one router, by 6 to another one; by 4 there is none.
func links() []api.Link {
	return []api.Link{{Iface: 3, Peer: 7}, {Iface: 5, Peer: 7}, {Iface: 6, Peer: 8}}
}

// someNet is a right net by chance.
func someNet(r *rand.Rand) api.Net {
	var l []api.Router
	for id := range r.Intn(4) {
		var some []api.Prefix
		for range r.Intn(7) {
			some = append(some, somePrefix(r))
		}
		l = append(l, api.Router{Id: id * 3, Routes: routesOf(r, some...), Links: links()[:r.Intn(4)]})
	}
	return seated(l...)
}

// somePast is a right past by chance.
func somePast(t *testing.T, r *rand.Rand) api.Past {
	t.Helper()
	p := api.Past{Base: someNet(r), Horizon: 7}
	for range r.Intn(25) {
		e := api.Event{Kind: api.EventKind(1 + r.Intn(6)), Router: r.Intn(4) * 3, Time: 8 + int64(len(p.Events)+r.Intn(5))}
		switch e.Kind {
		case api.EventAdd:
			e.Prefix, e.Action = somePrefix(r), actions[r.Intn(len(actions))]
		case api.EventWithdraw:
			e.Prefix = somePrefix(r)
		case api.EventLinkUp:
			e.Iface, e.Peer = 3+r.Intn(3), 7+r.Intn(2)
		case api.EventLinkDown:
			e.Iface = 3 + r.Intn(3)
		}
		for e.Seq = 1; e.Seq < 40; e.Seq++ {
			if q, why := past.Take(p, e); why == api.OK {
				p = q
				break
			}
		}
	}
	return p
}

// scattered is a net of that many routes of single addresses, no two of which are neighbours, all of which deliver, of at most 256 a router.
func scattered(six bool, many int) api.Net {
	long := 32
	if six {
		long = 128
	}
	var l []api.Router
	for i := range many {
		if i%api.MaxRoutes == 0 {
			l = append(l, api.Router{Id: len(l)})
		}
		r := &l[len(l)-1]
		r.Routes = append(r.Routes, api.Route{Prefix: api.Prefix{Six: six, Addr: lo(uint64(i)*2 + 1), Len: long}, Action: deliver})
	}
	return seated(l...)
}

// wrongNets are not right.
func wrongNets() []api.Net {
	fine := api.Router{Id: 4, Routes: []api.Route{{Prefix: four(10<<24, 8), Action: deliver}}}
	more := scattered(false, api.MaxTotal)
	more.Routers[0].Links = links()[:1]
	return []api.Net{
		{Seats: make([]api.Seat, 1)}, {Routers: []api.Router{fine}}, seated(fine, fine), seated(api.Router{Id: -1}), more,
		seated(api.Router{Id: 4, Routes: []api.Route{{Prefix: four(10<<24, 4), Action: deliver}}}), seated(api.Router{Id: 4, Routes: make([]api.Route, 1)}),
		{Seats: make([]api.Seat, 1<<16), Routers: make([]api.Router, 1<<16)},
	}
}

func add(router int, seq uint64, time int64, p api.Prefix) api.Event {
	return api.Event{Kind: api.EventAdd, Router: router, Seq: seq, Time: time, Prefix: p, Action: deliver}
}

func up(router int, time int64) api.Event {
	return api.Event{Kind: api.EventUp, Router: router, Seq: 1, Time: time}
}

// 22.1

func TestCheck(t *testing.T) {
	for _, six := range kinds {
		for _, cuts := range rightCuts(six) {
			if plainCheck(six, cuts) != api.OK {
				t.Fatalf("the sample %v is wrong", cuts)
			}
			if why := atoms.Check(six, cuts); why != api.OK {
				t.Errorf("Check(%t, %v): error %d", six, cuts, why)
			}
		}
		for _, cuts := range wrongCuts(six) {
			if plainCheck(six, cuts) != api.ErrForm {
				t.Fatalf("the sample %v is right", cuts)
			}
			if why := atoms.Check(six, cuts); why != api.ErrForm {
				t.Errorf("Check(%t, %d cuts): error %d", six, len(cuts), why)
			}
		}
		for i := range 100 {
			cuts := rising(100)
			cuts[i] = cuts[(i+99)%100]
			if why := atoms.Check(six, cuts); why != api.ErrForm {
				t.Errorf("Check with a cut that does not rise at %d: error %d", i, why)
			}
		}
	}
}

// Cuts that are not right are told first, and all else is zero.
func TestCutsThatAreNotRightAreRefused(t *testing.T) {
	for _, six := range kinds {
		for _, cuts := range wrongCuts(six) {
			for _, p := range []api.Prefix{{Six: six}, {Six: !six}, {Len: -1}} {
				if l, why := atoms.Split(six, cuts, p); len(l) != 0 || why != api.ErrForm {
					t.Errorf("Split(%t, %d cuts, %v): %v, error %d", six, len(cuts), p, l, why)
				}
			}
			for _, a := range []api.Addr{{}, lo(5), last6} {
				if n, why := atoms.Where(six, cuts, a); n != 0 || why != api.ErrForm {
					t.Errorf("Where(%t, %d cuts, %v): %d, error %d", six, len(cuts), a, n, why)
				}
			}
			if l, why := atoms.Spans(six, cuts); len(l) != 0 || why != api.ErrForm {
				t.Errorf("Spans(%t, %d cuts): %v, error %d", six, len(cuts), l, why)
			}
		}
	}
}

func TestExample(t *testing.T) {
	p := api.Past{Horizon: -1, Events: []api.Event{up(4, 0), add(4, 2, 0, four(10<<24, 8))}}
	cuts, why := atoms.Cuts(p, false)
	if !slices.Equal(cuts, los(0, 10<<24, 11<<24)) || why != api.OK {
		t.Errorf("Cuts: %v, error %d", cuts, why)
	}
}

func TestCutsByCases(t *testing.T) {
	ten := four(10<<24, 8)
	base := seated(api.Router{Id: 4, Routes: []api.Route{{Prefix: ten, Action: deliver}, {Prefix: api.Prefix{Six: true, Addr: api.Addr{Hi: 6}, Len: 64}, Action: deliver}}})
	gone := api.Event{Kind: api.EventWithdraw, Router: 4, Seq: 3, Time: 9, Prefix: ten}
	for name, c := range map[string]struct {
		p    api.Past
		six  bool
		want []api.Addr
	}{
		"nothing":                      {past.Make(), false, los(0)},
		"nothing of IPv6":              {past.Make(), true, los(0)},
		"a route of Base":              {api.Past{Base: base, Horizon: 7}, false, los(0, 10<<24, 11<<24)},
		"one of IPv6":                  {api.Past{Base: base, Horizon: 7}, true, []api.Addr{{}, {Hi: 6}, {Hi: 7}}},
		"withdrawn":                    {api.Past{Horizon: 7, Events: []api.Event{up(4, 8), add(4, 2, 9, ten), gone}}, false, los(0, 10<<24, 11<<24)},
		"gone with its router":         {api.Past{Horizon: 7, Events: []api.Event{up(4, 8), add(4, 2, 9, ten), {Kind: api.EventDown, Router: 4, Seq: 3, Time: 9}}}, false, los(0, 10<<24, 11<<24)},
		"withdrawn, never there":       {api.Past{Horizon: 7, Events: []api.Event{up(4, 8), {Kind: api.EventWithdraw, Router: 4, Seq: 2, Time: 9, Prefix: ten}}}, false, los(0)},
		"both, and neighbours":         {api.Past{Base: base, Horizon: 7, Events: []api.Event{add(4, 4, 9, four(11<<24, 8)), add(4, 5, 9, ten)}}, false, los(0, 10<<24, 11<<24, 12<<24)},
		"all":                          {api.Past{Horizon: -1, Events: []api.Event{up(4, 0), add(4, 2, 0, four(0, 0))}}, false, los(0)},
		"all of IPv6":                  {api.Past{Horizon: -1, Events: []api.Event{up(4, 0), add(4, 2, 0, api.Prefix{Six: true})}}, true, los(0)},
		"the last one":                 {api.Past{Horizon: -1, Events: []api.Event{up(4, 0), add(4, 2, 0, four(math.MaxUint32, 32))}}, false, los(0, math.MaxUint32)},
		"the last one of IPv6":         {api.Past{Horizon: -1, Events: []api.Event{up(4, 0), add(4, 2, 0, api.Prefix{Six: true, Addr: last6, Len: 128})}}, true, []api.Addr{{}, last6}},
		"the first one":                {api.Past{Horizon: -1, Events: []api.Event{up(4, 0), add(4, 2, 0, four(0, 32))}}, false, los(0, 1)},
		"across the middle of IPv6":    {api.Past{Horizon: -1, Events: []api.Event{up(4, 0), add(4, 2, 0, api.Prefix{Six: true, Addr: lo(math.MaxUint64), Len: 128})}}, true, []api.Addr{{}, lo(math.MaxUint64), {Hi: 1}}},
		"one within another":           {api.Past{Horizon: -1, Events: []api.Event{up(4, 0), add(4, 2, 0, ten), add(4, 3, 0, four(10<<24+1<<16, 16))}}, false, los(0, 10<<24, 10<<24+1<<16, 10<<24+2<<16, 11<<24)},
		"of two routers, of two times": {api.Past{Horizon: -1, Events: []api.Event{up(4, 5), up(5, 0), add(4, 2, 9, ten), add(5, 2, 1, four(1<<24, 8))}}, false, los(0, 1<<24, 2<<24, 10<<24, 11<<24)},
	} {
		if l, why := atoms.Cuts(c.p, c.six); !slices.Equal(l, c.want) || why != api.OK {
			t.Errorf("Cuts of %s: %v, error %d, not %v", name, l, why, c.want)
		}
	}
}

func TestCutsByTheWords(t *testing.T) {
	r := rand.New(rand.NewSource(221))
	for range 100 {
		p := somePast(t, r)
		for _, six := range kinds {
			l, why := atoms.Cuts(p, six)
			if want := plainCuts(p, six); !slices.Equal(l, want) || why != api.OK || atoms.Check(six, l) != api.OK {
				t.Fatalf("Cuts(%v, %t): %v, error %d, not %v", p, six, l, why, want)
			}
		}
	}
}

func TestCutsOfPastsThatAreNotRight(t *testing.T) {
	for _, p := range []api.Past{{Horizon: -2}, {Horizon: 6, Base: seated(api.Router{Id: 4})}, {Horizon: -1, Events: []api.Event{add(4, 2, 0, four(10<<24, 8))}}, {Events: make([]api.Event, api.MaxEvents+1)}, {Horizon: 7, Base: wrongNets()[4]}} {
		for _, six := range kinds {
			if l, why := atoms.Cuts(p, six); len(l) != 0 || why != api.ErrForm {
				t.Errorf("Cuts(%v, %t): %v, error %d", p, six, l, why)
			}
		}
	}
}

// All that a past may weigh has room among the cuts.
func TestCutsOfTheHeaviestPast(t *testing.T) {
	for _, six := range kinds {
		p := api.Past{Base: scattered(six, api.MaxTotal), Horizon: 7}
		cuts, why := atoms.Cuts(p, six)
		if len(cuts) != 2*api.MaxTotal+1 || why != api.OK || atoms.Check(six, cuts) != api.OK {
			t.Errorf("Cuts: %d, error %d", len(cuts), why)
		}
		if other, why := atoms.Cuts(p, !six); len(other) != 1 || why != api.OK {
			t.Errorf("Cuts of the other kind: %d, error %d", len(other), why)
		}
	}
}

// 22.2

func TestSplitByCases(t *testing.T) {
	for _, c := range []struct {
		cuts []api.Addr
		p    api.Prefix
		want []api.Addr
	}{
		{los(0), four(0, 0), los(0)},
		{los(0), four(0, 1), los(0, 1<<31)},
		{los(0), four(1<<31, 1), los(0, 1<<31)},
		{los(0), four(10<<24, 8), los(0, 10<<24, 11<<24)},
		{los(0, 10<<24, 11<<24), four(10<<24, 8), los(0, 10<<24, 11<<24)},
		{los(0, 10<<24, 11<<24), four(10<<24+1<<23, 9), los(0, 10<<24, 10<<24+1<<23, 11<<24)},
		{los(0, 10<<24, 11<<24), four(10<<24+1<<16, 16), los(0, 10<<24, 10<<24+1<<16, 10<<24+2<<16, 11<<24)},
		{los(0, 10<<24, 11<<24), four(12<<24, 8), los(0, 10<<24, 11<<24, 12<<24, 13<<24)},
		{los(0, 10<<24, 11<<24), four(11<<24, 8), los(0, 10<<24, 11<<24, 12<<24)},
		{los(0, 5), four(math.MaxUint32, 32), los(0, 5, math.MaxUint32)},
		{los(0, 5), four(0, 32), los(0, 1, 5)},
	} {
		if l, why := atoms.Split(false, c.cuts, c.p); !slices.Equal(l, c.want) || why != api.OK {
			t.Errorf("Split(%v, %v): %v, error %d, not %v", c.cuts, c.p, l, why, c.want)
		}
	}
}

func splitAsPlain(t *testing.T, six bool, cuts []api.Addr, p api.Prefix) ([]api.Addr, api.Errno) {
	t.Helper()
	want, no := plainSplit(six, cuts, p), api.OK
	if len(want) > 4096 {
		want, no = cuts, api.ErrLong
	}
	l, why := atoms.Split(six, cuts, p)
	if !slices.Equal(l, want) || why != no {
		t.Fatalf("Split(%t, %d cuts, %v): %v, error %d, not %v, %d", six, len(cuts), p, l, why, want, no)
	}
	return l, why
}

func TestSplitByTheWords(t *testing.T) {
	for _, six := range kinds {
		for _, cuts := range rightCuts(six) {
			for _, p := range prefixes() {
				if p.Six == six {
					splitAsPlain(t, six, cuts, p)
				}
			}
			for _, p := range wrongPrefixes(six) {
				if l, why := atoms.Split(six, cuts, p); len(l) != 0 || why != api.ErrForm {
					t.Fatalf("Split(%t, %v, %v): %v, error %d", six, cuts, p, l, why)
				}
			}
		}
	}
}

func TestSplitsThatAreTooMany(t *testing.T) {
	for _, six := range kinds {
		long := 32
		if six {
			long = 128
		}
		for _, c := range []struct {
			many int
			at   uint64
			why  api.Errno
		}{
			{api.MaxCuts, 500, api.ErrLong},     // two too many
			{api.MaxCuts, 1000, api.ErrLong},    // one, since the other one is there
			{api.MaxCuts - 1, 500, api.ErrLong}, // one of two
			{api.MaxCuts - 1, 1000, api.OK},     // just
			{api.MaxCuts - 2, 500, api.OK},      // just
			{api.MaxCuts, 4095*1000 + 1, api.ErrLong},
		} {
			cuts := rising(c.many)
			l, why := splitAsPlain(t, six, cuts, api.Prefix{Six: six, Addr: lo(c.at), Len: long})
			if why != c.why || atoms.Check(six, l) != api.OK {
				t.Errorf("Split(%d cuts, %d): error %d", c.many, c.at, why)
			}
		}
		if l, why := atoms.Split(six, rising(api.MaxCuts), api.Prefix{Six: six}); !slices.Equal(l, rising(api.MaxCuts)) || why != api.OK { // nothing is new
			t.Errorf("Split by all addresses: error %d", why)
		}
	}
}

// near are the right addresses about those of a list.
func near(six bool, l []api.Addr) []api.Addr {
	some := []api.Addr{{}, lo(1), lo(math.MaxUint32), last(six)}
	for _, a := range l {
		some = append(some, a)
		if b, why := addr.Prev(six, a); why == api.OK {
			some = append(some, b)
		}
		if b, why := addr.Next(six, a); why == api.OK {
			some = append(some, b)
		}
	}
	return some
}

func TestWhere(t *testing.T) {
	for _, six := range kinds {
		for _, cuts := range rightCuts(six) {
			some := cuts
			if len(cuts) > 100 {
				some = slices.Concat(cuts[:9], cuts[2000:2009], cuts[len(cuts)-9:])
			}
			for _, a := range near(six, some) {
				if n, why := atoms.Where(six, cuts, a); n != plainWhere(cuts, a) || why != api.OK {
					t.Fatalf("Where(%t, %v, %v): %d, error %d", six, cuts, a, n, why)
				}
			}
			if six {
				continue
			}
			for _, a := range []api.Addr{lo(1 << 32), {Hi: 1}, last6} {
				if n, why := atoms.Where(six, cuts, a); n != 0 || why != api.ErrForm {
					t.Fatalf("Where(%t, %v, %v): %d, error %d", six, cuts, a, n, why)
				}
			}
		}
	}
}

func TestSpans(t *testing.T) {
	for _, six := range kinds {
		for _, cuts := range rightCuts(six) {
			if l, why := atoms.Spans(six, cuts); !slices.Equal(l, plainSpans(six, cuts)) || why != api.OK {
				t.Fatalf("Spans(%t, %v): %v, error %d", six, cuts, l, why)
			}
		}
	}
	want := []api.Span{{To: lo(10<<24 - 1)}, {From: lo(10 << 24), To: lo(11<<24 - 1)}, {From: lo(11 << 24), To: last4}}
	if l, _ := atoms.Spans(false, los(0, 10<<24, 11<<24)); !slices.Equal(l, want) {
		t.Errorf("Spans: %v, not %v", l, want)
	}
}

// 22.2a

func TestClassesByCases(t *testing.T) {
	all := []api.Span{{To: last4}}
	ten := api.Span{From: lo(10 << 24), To: lo(11<<24 - 1)}
	rest := []api.Span{{To: lo(10<<24 - 1)}, {From: lo(11 << 24), To: last4}}
	route := func(p api.Prefix, a api.Action) api.Route { return api.Route{Prefix: p, Action: a} }
	down := api.Net{Seats: []api.Seat{{Router: 4, Seq: 3}}, Routers: []api.Router{{Id: 4}}}
	for name, c := range map[string]struct {
		n    api.Net
		want [][]api.Span
	}{
		"no router":                  {api.Net{}, [][]api.Span{all}},
		"one that is not up":         {down, [][]api.Span{all}},
		"no route":                   {seated(api.Router{Id: 4, Links: links()}), [][]api.Span{all}},
		"one route":                  {seated(api.Router{Id: 4, Routes: []api.Route{route(four(10<<24, 8), deliver)}}), [][]api.Span{rest, {ten}}},
		"a route that leads nowhere": {seated(api.Router{Id: 4, Routes: []api.Route{route(four(10<<24, 8), by4)}, Links: links()}), [][]api.Span{all}},
		"of IPv6 alone":              {seated(api.Router{Id: 4, Routes: []api.Route{route(api.Prefix{Six: true, Len: 1}, deliver)}}), [][]api.Span{all}},
		"two interfaces to one router": {seated(api.Router{Id: 4, Routes: []api.Route{route(four(10<<24, 8), by3), route(four(11<<24, 8), by5)}, Links: links()}),
			[][]api.Span{{{To: lo(10<<24 - 1)}, {From: lo(12 << 24), To: last4}}, {{From: lo(10 << 24), To: lo(12<<24 - 1)}}}},
		"two interfaces to two routers": {seated(api.Router{Id: 4, Routes: []api.Route{route(four(10<<24, 8), by3), route(four(11<<24, 8), by6)}, Links: links()}),
			[][]api.Span{{{To: lo(10<<24 - 1)}, {From: lo(12 << 24), To: last4}}, {ten}, {{From: lo(11 << 24), To: lo(12<<24 - 1)}}}},
		"one route, all from 0 on":      {seated(api.Router{Id: 4, Routes: []api.Route{route(four(0, 8), deliver)}}), [][]api.Span{{{To: lo(1<<24 - 1)}}, {{From: lo(1 << 24), To: last4}}}},
		"one within that does the same": {seated(api.Router{Id: 4, Routes: []api.Route{route(four(10<<24, 8), deliver), route(four(10<<24+1<<16, 16), deliver)}}), [][]api.Span{rest, {ten}}},
		"one within that does else": {seated(api.Router{Id: 4, Routes: []api.Route{route(four(10<<24, 8), deliver), route(four(10<<24+1<<16, 16), discard)}}),
			[][]api.Span{rest, {{From: lo(10 << 24), To: lo(10<<24 + 1<<16 - 1)}, {From: lo(10<<24 + 2<<16), To: lo(11<<24 - 1)}}, {{From: lo(10<<24 + 1<<16), To: lo(10<<24 + 2<<16 - 1)}}}},
		"two routers": {seated(api.Router{Id: 4, Routes: []api.Route{route(four(0, 1), deliver)}}, api.Router{Id: 5, Routes: []api.Route{route(four(1<<30, 2), deliver), route(four(1<<31, 2), deliver)}}),
			[][]api.Span{{{To: lo(1<<30 - 1)}}, {{From: lo(1 << 30), To: lo(1<<31 - 1)}}, {{From: lo(1 << 31), To: lo(3<<30 - 1)}}, {{From: lo(3 << 30), To: last4}}}},
		"two routers that do the same": {seated(api.Router{Id: 4, Routes: []api.Route{route(four(10<<24, 8), deliver)}}, api.Router{Id: 5, Routes: []api.Route{route(four(10<<24, 8), deliver)}}), [][]api.Span{rest, {ten}}},
		"two routers, turned": {seated(api.Router{Id: 4, Routes: []api.Route{route(four(0, 8), deliver), route(four(2<<24, 8), discard)}}, api.Router{Id: 5, Routes: []api.Route{route(four(0, 8), discard), route(four(2<<24, 8), deliver)}}),
			[][]api.Span{{{To: lo(1<<24 - 1)}}, {{From: lo(1 << 24), To: lo(2<<24 - 1)}, {From: lo(3 << 24), To: last4}}, {{From: lo(2 << 24), To: lo(3<<24 - 1)}}}},
	} {
		if l, why := atoms.Classes(c.n, false); !sameClasses(l, c.want) || why != api.OK {
			t.Errorf("Classes of %s: %v, error %d, not %v", name, l, why, c.want)
		}
	}
	if l, why := atoms.Classes(api.Net{}, true); !sameClasses(l, [][]api.Span{{{To: last6}}}) || why != api.OK {
		t.Errorf("Classes of no router of IPv6: %v, error %d", l, why)
	}
}

func TestClassesByTheWords(t *testing.T) {
	r := rand.New(rand.NewSource(2221))
	for range 300 {
		n := someNet(r)
		for _, six := range kinds {
			want, no := plainClasses(t, n, six)
			if l, why := atoms.Classes(n, six); !sameClasses(l, want) || why != no {
				t.Fatalf("Classes(%v, %t): %v, error %d, not %v, %d", n, six, l, why, want, no)
			}
		}
	}
}

func TestClassesOfNetsThatAreNotRight(t *testing.T) {
	for _, n := range wrongNets() {
		if net.Check(n) != api.ErrForm {
			t.Fatalf("the sample %v is right", n)
		}
		for _, six := range kinds {
			if l, why := atoms.Classes(n, six); len(l) != 0 || why != api.ErrForm {
				t.Errorf("Classes(%v, %t): %v, error %d", n, six, l, why)
			}
		}
	}
}

// Of as many routes as there may be, none of which is another one's neighbour, what is between them is one span too many.
func TestClassesThatAreTooLong(t *testing.T) {
	for _, six := range kinds {
		l, why := atoms.Classes(scattered(six, api.MaxTotal), six)
		if len(l) != 0 || why != api.ErrLong {
			t.Errorf("Classes of %d routes: %d, error %d", api.MaxTotal, len(l), why)
		}
		l, why = atoms.Classes(scattered(six, api.MaxTotal-1), six)
		if len(l) != 5 || why != api.OK || len(l[0]) != api.MaxSpans || len(l[4]) != api.MaxRoutes-1 {
			t.Errorf("Classes of one less: %d, error %d", len(l), why)
		}
		if l, why = atoms.Classes(scattered(six, api.MaxTotal), !six); len(l) != 1 || why != api.OK {
			t.Errorf("Classes of the other kind: %d, error %d", len(l), why)
		}
		n := scattered(six, api.MaxTotal) // one of them does what others do with nothing
		n.Routers[2].Routes[7].Action = by3
		if l, why = atoms.Classes(n, six); len(l) != 5 || why != api.OK || len(l[0]) != api.MaxSpans {
			t.Errorf("Classes, one route leading nowhere: %d, error %d", len(l), why)
		}
	}
}

// 22.3

// roomy is a list with room behind it, which is anyone's.
func roomy[T any](l []T) []T {
	return append(slices.Clone(l), make([]T, 4)...)[:len(l)]
}

// spoil turns all that a list has room for.
func spoil[T any](l []T, to T) {
	for i := range l[:cap(l)] {
		l[:cap(l)][i] = to
	}
}

func TestCutsAreNewMemory(t *testing.T) {
	wrong := api.Addr{Hi: 77, Lo: 77}
	for name, call := range map[string]func([]api.Addr) []api.Addr{
		"split":          func(l []api.Addr) []api.Addr { m, _ := atoms.Split(false, l, four(10<<24, 8)); return m },
		"nothing new":    func(l []api.Addr) []api.Addr { m, _ := atoms.Split(false, l, four(0, 0)); return m },
		"one too many":   func(l []api.Addr) []api.Addr { m, _ := atoms.Split(false, l, four(500, 32)); return m },
		"no such prefix": func(l []api.Addr) []api.Addr { m, _ := atoms.Split(false, l, api.Prefix{Len: -1}); return m },
		"spans": func(l []api.Addr) []api.Addr {
			var m []api.Addr
			some, _ := atoms.Spans(false, l)
			for _, s := range some {
				m = append(m, s.From, s.To)
			}
			return m
		},
	} {
		for _, plain := range rightCuts(false) {
			cuts := roomy(plain)
			l, other := call(cuts), call(cuts)
			want := slices.Clone(l)
			spoil(other, wrong)
			if !slices.Equal(cuts, plain) || slices.ContainsFunc(cuts[:cap(cuts)][len(cuts):], func(a api.Addr) bool { return a != api.Addr{} }) {
				t.Fatalf("Split, %s: it turned %v, or shares memory with it", name, plain)
			}
			spoil(cuts, wrong)
			if !slices.Equal(l, want) {
				t.Fatalf("Split, %s, of %v shares memory", name, plain)
			}
		}
	}
	spans, _ := atoms.Spans(false, los(0, 5))
	others, _ := atoms.Spans(false, los(0, 5))
	spoil(others, api.Span{From: wrong})
	if !slices.Equal(spans, plainSpans(false, los(0, 5))) {
		t.Error("Spans shares memory with another answer")
	}
}

func TestAPastAndANetStayAsTheyWere(t *testing.T) {
	r := rand.New(rand.NewSource(223))
	for range 60 {
		p := somePast(t, r)
		events, routers := slices.Clone(p.Events), slices.Clone(p.Base.Routers)
		var routes [][]api.Route
		for _, x := range routers {
			routes = append(routes, slices.Clone(x.Routes))
		}
		cuts, _ := atoms.Cuts(p, false)
		want := slices.Clone(cuts)
		classes, _ := atoms.Classes(p.Base, false)
		held, _ := atoms.Classes(p.Base, false)
		more, _ := atoms.Cuts(p, false)
		spoil(more, last6)
		for i, l := range classes { // no list is another one's, of this answer or of the other one
			spoil(l, api.Span{From: last6})
			for k := range classes {
				if k > i && !slices.Equal(classes[k], held[k]) {
					t.Fatalf("Classes(%v): classes %d and %d share memory", p.Base, i, k)
				}
			}
		}
		if again, _ := atoms.Classes(p.Base, false); !sameClasses(again, held) || !slices.Equal(cuts, want) || !slices.Equal(p.Events, events) {
			t.Fatalf("answers of %v share memory", p)
		}
		for i, x := range p.Base.Routers {
			if !slices.Equal(x.Routes, routes[i]) || x.Id != routers[i].Id {
				t.Fatalf("a call turned router %d of %v", i, p)
			}
		}
	}
}

// 22.4

func TestEachAddressIsInJustOneAtom(t *testing.T) {
	for _, six := range kinds {
		for _, cuts := range rightCuts(six) {
			spans, _ := atoms.Spans(six, cuts)
			some := cuts
			if len(cuts) > 100 {
				some = slices.Concat(cuts[:9], cuts[len(cuts)-9:])
			}
			for _, a := range near(six, some) {
				at, why := atoms.Where(six, cuts, a)
				for i, s := range spans {
					if is := addr.Cmp(s.From, a) <= 0 && addr.Cmp(a, s.To) <= 0; is != (i == at) || why != api.OK {
						t.Fatalf("%v of %v: in atom %d of %v, and Where is %d", a, cuts, i, spans, at)
					}
				}
			}
		}
	}
}

// 22.5

func TestAnAtomIsAlikeAtEachTime(t *testing.T) {
	r := rand.New(rand.NewSource(225))
	for range 60 {
		p := somePast(t, r)
		for _, six := range kinds {
			cuts, _ := atoms.Cuts(p, six)
			spans, _ := atoms.Spans(six, cuts)
			for at := int64(7); at < 40; at += 3 {
				n, why := past.At(p, at)
				if why != api.OK {
					t.Fatalf("At(%v, %d): error %d", p, at, why)
				}
				for _, s := range spans {
					alike(t, n, six, s)
				}
			}
		}
	}
}

// alike holds that the addresses of a span meet the same: its ends, and some between.
func alike(t *testing.T, n api.Net, six bool, s api.Span) {
	t.Helper()
	middle := number(s.From)
	middle.Add(middle, number(s.To)).Rsh(middle, 1)
	want := met(t, n, six, s.From)
	for _, a := range []api.Addr{s.To, address(middle)} {
		if l := met(t, n, six, a); !slices.Equal(l, want) {
			t.Fatalf("%v and %v meet %v and %v in %v", s.From, a, want, l, n)
		}
	}
}

// 22.6

func TestSplitIsFiner(t *testing.T) {
	r := rand.New(rand.NewSource(226))
	for range 200 {
		for _, six := range kinds {
			cuts := los(0)
			for range r.Intn(12) {
				p := somePrefix(r)
				if p.Six != six {
					continue
				}
				finer, why := splitAsPlain(t, six, cuts, p)
				if why != api.OK || atoms.Check(six, finer) != api.OK {
					t.Fatalf("Split(%v, %v): %v, error %d", cuts, p, finer, why)
				}
				for _, a := range cuts {
					if !slices.Contains(finer, a) {
						t.Fatalf("Split(%v, %v): %v is without %v", cuts, p, finer, a)
					}
				}
				spans, _ := atoms.Spans(six, finer)
				for _, s := range spans { // all of an atom is the prefix's, or nothing
					if addr.Has(p, six, s.From) != addr.Has(p, six, s.To) {
						t.Fatalf("Split(%v, %v): %v is half the prefix's", cuts, p, s)
					}
				}
				again, _ := atoms.Split(six, finer, p)
				if !slices.Equal(again, finer) {
					t.Fatalf("Split(%v, %v) once more: %v, not %v", finer, p, again, finer)
				}
				cuts = finer
			}
		}
	}
}

// Split by all prefixes of a past, in any order, what is one atom has its cuts.
func TestCutsAreSplits(t *testing.T) {
	r := rand.New(rand.NewSource(2262))
	for range 60 {
		p := somePast(t, r)
		some := routePrefixes(p.Base)
		for _, e := range p.Events {
			if e.Kind == api.EventAdd {
				some = append(some, e.Prefix)
			}
		}
		r.Shuffle(len(some), func(i, k int) { some[i], some[k] = some[k], some[i] })
		for _, six := range kinds {
			cuts := los(0)
			for _, q := range some {
				if q.Six == six {
					cuts, _ = atoms.Split(six, cuts, q)
				}
			}
			if l, _ := atoms.Cuts(p, six); !slices.Equal(l, cuts) {
				t.Fatalf("Cuts(%v, %t): %v, not %v", p, six, l, cuts)
			}
		}
	}
}

// 22.7

func TestEachAddressIsInJustOneClass(t *testing.T) {
	r := rand.New(rand.NewSource(227))
	for range 120 {
		n := someNet(r)
		for _, six := range kinds {
			classes, why := atoms.Classes(n, six)
			if why != api.OK {
				t.Fatalf("Classes(%v, %t): error %d", n, six, why)
			}
			partsAll(t, six, classes)
			var firsts []api.Addr
			for _, l := range classes {
				firsts = append(firsts, l[0].From)
			}
			if !slices.IsSortedFunc(firsts, addr.Cmp) {
				t.Fatalf("Classes(%v, %t): %v are not by their least addresses", n, six, classes)
			}
			sameMeetTheSame(t, n, six, classes)
		}
	}
}

// partsAll holds that classes are rows, no two of which have an address in common, and which are all together.
func partsAll(t *testing.T, six bool, classes [][]api.Span) {
	t.Helper()
	var all []api.Span
	for _, l := range classes {
		if span.Check(six, l) != api.OK || len(l) == 0 {
			t.Fatalf("%v is no row of a class", l)
		}
		if both, _ := span.And(six, all, l); len(both) != 0 {
			t.Fatalf("%v is of two classes", both)
		}
		all, _ = span.Or(six, all, l)
	}
	if !slices.Equal(all, []api.Span{{To: last(six)}}) {
		t.Fatalf("all classes together are %v", all)
	}
}

// sameMeetTheSame holds that two addresses meet the same just if they are of one class: all about which a span begins or ends.
func sameMeetTheSame(t *testing.T, n api.Net, six bool, classes [][]api.Span) {
	t.Helper()
	var hops [][]api.Hop
	for _, l := range classes {
		want := met(t, n, six, l[0].From)
		if slices.ContainsFunc(hops, func(o []api.Hop) bool { return slices.Equal(o, want) }) {
			t.Fatalf("two of the classes %v meet %v in %v", classes, want, n)
		}
		hops = append(hops, want)
		for _, s := range l {
			if o := met(t, n, six, s.From); !slices.Equal(o, want) {
				t.Fatalf("%v of %v meets %v, not %v", s, l, o, want)
			}
			for _, q := range routePrefixes(n) {
				if q.Six == six && addr.Cmp(s.From, q.Addr) <= 0 && addr.Cmp(q.Addr, s.To) <= 0 && !slices.Equal(met(t, n, six, q.Addr), want) {
					t.Fatalf("%v of %v meets else", q, l)
				}
			}
			alike(t, n, six, s)
		}
	}
}

// P1, P3, P4

func FuzzAnyNumbers(f *testing.F) {
	f.Add(false, uint64(0), uint64(10<<24), uint64(0), uint64(11<<24), false, uint64(0), uint64(10<<24), 8, uint8(1), 4, int64(7))
	f.Add(true, uint64(1), uint64(0), uint64(0), uint64(1), true, uint64(math.MaxUint64), uint64(math.MaxUint64), 128, uint8(2), -4, int64(-2))
	f.Add(false, uint64(0), uint64(1<<32), uint64(1), uint64(1), true, uint64(1), uint64(0), 300, uint8(9), 1<<30, int64(1<<41))
	f.Fuzz(func(t *testing.T, six bool, h1, l1, h2, l2 uint64, other bool, h3, l3 uint64, long int, action uint8, id int, horizon int64) {
		a, b := api.Addr{Hi: h1, Lo: l1}, api.Addr{Hi: h2, Lo: l2}
		p := api.Prefix{Six: other, Addr: api.Addr{Hi: h3, Lo: l3}, Len: long}
		n := seated(api.Router{Id: id, Routes: []api.Route{{Prefix: p, Action: api.Action{Kind: api.ActionKind(action)}}}})
		for _, cuts := range [][]api.Addr{nil, {a}, {a, b}, {{}, a}, {{}, a, b}, {{}, b, a}} {
			why := atoms.Check(six, cuts)
			if why != plainCheck(six, cuts) {
				t.Fatalf("Check(%t, %v): error %d", six, cuts, why)
			}
			if why == api.OK && p.Six == six && addr.Check(p) == api.OK {
				splitAsPlain(t, six, cuts, p)
			} else if l, no := atoms.Split(six, cuts, p); len(l) != 0 || no != api.ErrForm {
				t.Fatalf("Split(%t, %v, %v): %v, error %d", six, cuts, p, l, no)
			}
			at, no := atoms.Where(six, cuts, b)
			if right := why == api.OK && addr.Right(six, b); right != (no == api.OK) || right && at != plainWhere(cuts, b) {
				t.Fatalf("Where(%t, %v, %v): %d, error %d", six, cuts, b, at, no)
			}
			if _, no := atoms.Spans(six, cuts); no != why {
				t.Fatalf("Spans(%t, %v): error %d, not %d", six, cuts, no, why)
			}
		}
		if _, why := atoms.Classes(n, six); why != net.Check(n) {
			t.Fatalf("Classes(%v, %t): error %d", n, six, why)
		}
		if _, why := atoms.Cuts(api.Past{Base: n, Horizon: horizon}, six); why != past.Check(api.Past{Base: n, Horizon: horizon}) {
			t.Fatalf("Cuts(%v, %d, %t): error %d", n, horizon, six, why)
		}
	})
}

func TestAnswersHangOnArgumentsAlone(t *testing.T) {
	n := scattered(false, 300)
	want, _ := atoms.Classes(n, false)
	for range 10 {
		m := n
		m.Seats, m.Routers = roomy(n.Seats), roomy(n.Routers)
		for i, r := range m.Routers {
			m.Routers[i].Routes, m.Routers[i].Links = roomy(r.Routes), []api.Link{}
		}
		if l, why := atoms.Classes(m, false); !sameClasses(l, want) || why != api.OK {
			t.Fatalf("Classes turned: %v, error %d", l, why)
		}
	}
	for _, p := range []api.Past{{Horizon: -1}, {Horizon: -1, Base: api.Net{Seats: []api.Seat{}, Routers: []api.Router{}}, Events: []api.Event{}}} {
		if l, why := atoms.Cuts(p, true); !slices.Equal(l, los(0)) || why != api.OK {
			t.Fatalf("Cuts of nothing: %v, error %d", l, why)
		}
	}
}

func TestNoGoroutineIsLeft(t *testing.T) {
	before := runtime.NumGoroutine()
	r := rand.New(rand.NewSource(220))
	for range 10 {
		p := somePast(t, r)
		cuts, _ := atoms.Cuts(p, false)
		atoms.Check(false, cuts)
		atoms.Split(false, cuts, four(0, 1))
		atoms.Where(false, cuts, lo(9))
		atoms.Spans(false, cuts)
		atoms.Classes(p.Base, false)
	}
	for _, n := range wrongNets() {
		atoms.Classes(n, false)
	}
	atoms.Classes(scattered(false, api.MaxTotal), false)
	if after := runtime.NumGoroutine(); after > before {
		t.Errorf("%d goroutines, and %d ahead of the calls", after, before)
	}
}
