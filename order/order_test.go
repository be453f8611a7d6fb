package order_test

import (
	"cmp"
	"math"
	"math/rand"
	"runtime"
	"slices"
	"testing"

	"spoor/api"
	"spoor/order"
)

// The calls have the signatures of doc/14-order.md.
var (
	_ func([]api.Seat) api.Errno                                        = order.Check
	_ func([]api.Seat, int) (api.Seat, bool)                            = order.Find
	_ func([]api.Seat, api.Event, int64) api.Errno                      = order.May
	_ func([]api.Seat, api.Event, int64) ([]api.Seat, api.Errno)        = order.Next
	_ func([]api.Seat, []api.Event, int64) ([]api.Seat, int, api.Errno) = order.All
)

// Samples.

// kinds are those that an event may be of.
var kinds = []api.EventKind{api.EventUp, api.EventDown, api.EventAdd, api.EventWithdraw, api.EventLinkUp, api.EventLinkDown}

// event is a right one, if its numbers are.
func event(kind api.EventKind, router int, seq uint64, time int64) api.Event {
	e := api.Event{Kind: kind, Router: router, Seq: seq, Time: time}
	switch kind {
	case api.EventAdd:
		e.Prefix, e.Action = api.Prefix{Addr: api.Addr{Lo: 10 << 24}, Len: 8}, api.Action{Kind: api.ActionForward, Iface: 7}
	case api.EventWithdraw:
		e.Prefix = api.Prefix{Six: true}
	case api.EventLinkUp:
		e.Iface, e.Peer = 3, 4
	case api.EventLinkDown:
		e.Iface = 3
	}
	return e
}

// wrongEvents are near right ones.
func wrongEvents() []api.Event {
	l := []api.Event{
		{}, event(api.EventCount, 2, 4, 7), event(255, 2, 4, 7), event(api.EventNone, 2, 4, 7),
		event(api.EventUp, -1, 1, 7), event(api.EventUp, api.MaxId+1, 1, 7), event(api.EventUp, math.MinInt, 1, 7), event(api.EventUp, math.MaxInt, 1, 7),
		event(api.EventUp, 3, 0, 7), event(api.EventUp, 3, api.MaxSeq+1, 7), event(api.EventUp, 3, math.MaxUint64, 7),
		event(api.EventUp, 3, 1, -1), event(api.EventUp, 3, 1, api.MaxTime+1), event(api.EventUp, 3, 1, math.MinInt64), event(api.EventUp, 3, 1, math.MaxInt64),
		{Kind: api.EventUp, Router: 3, Seq: 1, Iface: 1}, {Kind: api.EventAdd, Router: 2, Seq: 4, Time: 7},
		{Kind: api.EventWithdraw, Router: 2, Seq: 4, Time: 7, Prefix: api.Prefix{Len: 33}},
	}
	return append(l, event(api.EventDown, 9, api.MaxSeq+1, api.MaxTime)) // the next one of a router that is at its end
}

// full are as many right seats as there may be, of the routers 0, 3, 6, ...
func full() []api.Seat {
	l := make([]api.Seat, api.MaxRouters)
	for i := range l {
		l[i] = api.Seat{Router: 3 * i, Seq: 1 + uint64(i%4), Time: int64(i % 9), Up: i%2 == 0}
	}
	return l
}

// rights are right seats.
func rights() [][]api.Seat {
	return [][]api.Seat{
		nil,
		{},
		{{Router: 2, Seq: 3, Time: 7, Up: true}},
		{{Router: 2, Seq: 3, Time: 7}},
		{{Router: 0, Seq: 1}},
		{{Router: 0, Seq: 1, Up: true}, {Router: 2, Seq: 1, Time: 7}, {Router: 5, Seq: 2, Time: 6, Up: true}, {Router: 9, Seq: api.MaxSeq, Time: api.MaxTime, Up: true}, {Router: api.MaxId, Seq: api.MaxSeq - 1, Time: 8}},
		{{Router: 1, Seq: api.MaxSeq, Time: api.MaxTime, Up: true}, {Router: 9, Seq: 3, Time: 0, Up: true}},
		full(),
		full()[:api.MaxRouters-1],
		full()[1:],
	}
}

// wrongs are seats that are not right.
func wrongs() [][]api.Seat {
	fine := api.Seat{Router: 2, Seq: 3, Time: 7, Up: true}
	l := [][]api.Seat{
		{fine, fine},
		{fine, {Router: 1, Seq: 3, Time: 7, Up: true}},
		{{Router: 1, Seq: 1}, {Router: 3, Seq: 1}, fine},
		{fine, {Router: 3, Seq: 1}, {Router: 3, Seq: 2}},
		{{}, {}},
		append(full(), api.Seat{Router: api.MaxId, Seq: 1}),
		make([]api.Seat, 1000),
	}
	for _, s := range []api.Seat{
		{}, {Router: 1}, {Router: -1, Seq: 1}, {Router: math.MinInt, Seq: 1}, {Router: api.MaxId + 1, Seq: 1}, {Router: math.MaxInt, Seq: 1},
		{Router: 4, Seq: 0, Up: true}, {Router: 4, Seq: api.MaxSeq + 1}, {Router: 4, Seq: math.MaxUint64, Up: true},
		{Router: 4, Seq: 1, Time: -1}, {Router: 4, Seq: 1, Time: math.MinInt64}, {Router: 4, Seq: 1, Time: api.MaxTime + 1}, {Router: 4, Seq: 1, Time: math.MaxInt64},
	} {
		l = append(l, []api.Seat{s}, []api.Seat{fine, s}, []api.Seat{s, {Router: api.MaxId, Seq: 1}})
	}
	return l
}

var (
	horizons      = []int64{-1, 0, 5, 6, 7, 8, api.MaxTime - 1, api.MaxTime}
	wrongHorizons = []int64{-2, math.MinInt64, api.MaxTime + 1, math.MaxInt64}
)

// events are right ones, at the edges of what fits the seats above.
func events() []api.Event {
	var l []api.Event
	for _, kind := range kinds {
		for _, router := range []int{0, 1, 2, 3, 5, 9, 189, api.MaxId} {
			for _, seq := range []uint64{1, 2, 3, 4, 5, api.MaxSeq - 1, api.MaxSeq} {
				for _, time := range []int64{0, 5, 6, 7, 8, api.MaxTime} {
					l = append(l, event(kind, router, seq, time))
				}
			}
		}
	}
	return l
}

// What follows is plain, by the document's words.

// plainWhys are all errors that keep a right event from right seats, in the order in which they are asked for.
func plainWhys(l []api.Seat, e api.Event, horizon int64) []api.Errno {
	seats := map[int]api.Seat{}
	for _, s := range l {
		seats[s.Router] = s
	}
	s, has := seats[e.Router]
	next := uint64(1)
	if has {
		next = s.Seq + 1
	}
	var some []api.Errno
	if !has && e.Kind != api.EventUp {
		some = append(some, api.ErrRouter)
	}
	if e.Seq != next {
		some = append(some, api.ErrSeq)
	}
	if has && e.Time < s.Time || !(e.Time > horizon) {
		some = append(some, api.ErrTime)
	}
	if e.Kind == api.EventUp && has && s.Up || e.Kind != api.EventUp && !(has && s.Up) {
		some = append(some, api.ErrState)
	}
	if !has && len(l) >= 64 {
		some = append(some, api.ErrFull)
	}
	return some
}

func plainMay(l []api.Seat, e api.Event, horizon int64) api.Errno {
	if some := plainWhys(l, e, horizon); len(some) > 0 {
		return some[0]
	}
	return api.OK
}

// plainNext is the seats behind a right event that may be refused.
func plainNext(l []api.Seat, e api.Event, horizon int64) []api.Seat {
	if plainMay(l, e, horizon) != api.OK {
		return l
	}
	m := []api.Seat{{Router: e.Router, Seq: e.Seq, Time: e.Time, Up: e.Kind != api.EventDown}}
	for _, s := range l {
		if s.Router != e.Router {
			m = append(m, s)
		}
	}
	slices.SortFunc(m, func(a, b api.Seat) int { return cmp.Compare(a.Router, b.Router) })
	return m
}

// 14.1

func TestCheckTakesWhatIsRight(t *testing.T) {
	for _, l := range rights() {
		if why := order.Check(l); why != api.OK {
			t.Errorf("Check(%v): error %d", l, why)
		}
	}
	for _, s := range []api.Seat{
		{Seq: 1}, {Seq: 1, Up: true}, {Router: api.MaxId, Seq: 1}, {Seq: api.MaxSeq}, {Seq: 1, Time: api.MaxTime},
		{Router: api.MaxId, Seq: api.MaxSeq, Time: api.MaxTime, Up: true},
	} {
		if why := order.Check([]api.Seat{s}); why != api.OK {
			t.Errorf("Check(%v): error %d", s, why)
		}
	}
}

func TestCheckRefusesWhatIsNotRight(t *testing.T) {
	for _, l := range wrongs() {
		if why := order.Check(l); why != api.ErrForm {
			t.Errorf("Check(%v): error %d", l, why)
		}
	}
	for i := range api.MaxRouters {
		l := full()
		l[i].Seq = 0
		if why := order.Check(l); why != api.ErrForm {
			t.Errorf("Check with a wrong seat at %d: error %d", i, why)
		}
		if i == 0 {
			continue
		}
		l = full()
		l[i].Router = l[i-1].Router
		if why := order.Check(l); why != api.ErrForm {
			t.Errorf("Check with a router that is twice, at %d: error %d", i, why)
		}
	}
}

func TestFindIsTheFirstOne(t *testing.T) {
	for _, l := range append(rights(), wrongs()...) {
		routers := []int{-1, 0, 1, 2, 3, 4, 5, 9, 63, 64, api.MaxId, api.MaxId + 1, math.MinInt, math.MaxInt}
		for _, s := range l {
			routers = append(routers, s.Router)
		}
		for _, router := range routers {
			var want api.Seat
			has := false
			for _, s := range slices.Backward(l) {
				if s.Router == router {
					want, has = s, true
				}
			}
			if s, is := order.Find(l, router); s != want || is != has {
				t.Errorf("Find(%v, %d): %v, %t", l, router, s, is)
			}
		}
	}
	twice := []api.Seat{{Router: 7, Seq: 9}, {Router: -4, Seq: 2, Up: true}, {Router: -4, Seq: 1}, {Router: 7}}
	if s, is := order.Find(twice, -4); s != twice[1] || !is {
		t.Errorf("Find of a router that is twice: %v, %t", s, is)
	}
	if s, is := order.Find(twice, 7); s != twice[0] || !is {
		t.Errorf("Find of a router that is twice: %v, %t", s, is)
	}
}

// 14.2

func TestExamples(t *testing.T) {
	if l, why := order.Next(nil, event(api.EventUp, 1, 1, 5), -1); !slices.Equal(l, []api.Seat{{Router: 1, Seq: 1, Time: 5, Up: true}}) || why != api.OK {
		t.Errorf("EventUp of Seq 1: %v, error %d", l, why)
	}
	if why := order.May(nil, event(api.EventUp, 1, 2, 5), -1); why != api.ErrSeq {
		t.Errorf("EventUp of Seq 2: error %d", why)
	}
	for _, kind := range kinds[1:] {
		if why := order.May(nil, event(kind, 1, 1, 5), -1); why != api.ErrRouter {
			t.Errorf("kind %d: error %d", kind, why)
		}
	}
}

func TestEachWhy(t *testing.T) {
	on := []api.Seat{{Router: 2, Seq: 3, Time: 7, Up: true}, {Router: 4, Seq: 1, Time: 7}}
	for _, c := range []struct {
		l       []api.Seat
		e       api.Event
		horizon int64
		why     api.Errno
	}{
		{on, event(api.EventAdd, 2, 4, 7), -1, api.OK},
		{on, event(api.EventAdd, 2, 4, 7), 6, api.OK},
		{on, event(api.EventDown, 2, 4, 8), 7, api.OK},
		{on, event(api.EventUp, 4, 2, 7), -1, api.OK},
		{on, event(api.EventUp, 3, 1, 0), -1, api.OK}, // elder than all that was, of other routers
		{on, event(api.EventUp, api.MaxId, 1, api.MaxTime), api.MaxTime - 1, api.OK},
		{on, event(api.EventAdd, 3, 1, 7), -1, api.ErrRouter},
		{on, event(api.EventDown, 3, 2, 0), 7, api.ErrRouter},
		{on, event(api.EventUp, 2, 3, 7), -1, api.ErrSeq},
		{on, event(api.EventAdd, 2, 3, 7), -1, api.ErrSeq},
		{on, event(api.EventAdd, 2, 5, 7), -1, api.ErrSeq},
		{on, event(api.EventUp, 4, 1, 0), 9, api.ErrSeq},
		{on, event(api.EventUp, 3, 2, 0), 9, api.ErrSeq},
		{on, event(api.EventAdd, 2, 4, 6), -1, api.ErrTime},
		{on, event(api.EventAdd, 2, 4, 8), 8, api.ErrTime},
		{on, event(api.EventUp, 2, 4, 6), -1, api.ErrTime},
		{on, event(api.EventUp, 3, 1, 5), 5, api.ErrTime},
		{on, event(api.EventUp, 3, 1, 0), 0, api.ErrTime},
		{on, event(api.EventUp, 3, 1, api.MaxTime), api.MaxTime, api.ErrTime},
		{on, event(api.EventUp, 2, 4, 7), -1, api.ErrState},
		{on, event(api.EventDown, 4, 2, 7), -1, api.ErrState},
		{on, event(api.EventLinkUp, 4, 2, 7), -1, api.ErrState},
		{full(), event(api.EventUp, 1, 1, 7), -1, api.ErrFull},
		{full(), event(api.EventUp, 1, 2, 7), -1, api.ErrSeq},
		{full(), event(api.EventUp, 1, 1, 7), 7, api.ErrTime},
		{full(), event(api.EventDown, 1, 1, 7), -1, api.ErrRouter},
		{full(), event(api.EventDown, 0, 2, 7), -1, api.OK},
		{full(), event(api.EventUp, 3, 3, 7), -1, api.OK},
		{full()[1:], event(api.EventUp, 1, 1, 7), -1, api.OK},
	} {
		if why := order.May(c.l, c.e, c.horizon); why != c.why {
			t.Errorf("May(%v, %v, %d): error %d, not %d", c.l, c.e, c.horizon, why, c.why)
		}
	}
}

// fitsAsPlain holds May and Next of right seats and a right event against the plain forms.
func fitsAsPlain(t *testing.T, l []api.Seat, e api.Event, horizon int64) {
	t.Helper()
	no := plainMay(l, e, horizon)
	if why := order.May(l, e, horizon); why != no {
		t.Fatalf("May(%v, %v, %d): error %d, not %d", l, e, horizon, why, no)
	}
	want := plainNext(l, e, horizon)
	m, why := order.Next(l, e, horizon)
	if !slices.Equal(m, want) || why != no {
		t.Fatalf("Next(%v, %v, %d): %v, error %d, not %v, %d", l, e, horizon, m, why, want, no)
	}
	if why := order.Check(m); why != api.OK {
		t.Fatalf("Next(%v, %v, %d): %v, which are not right", l, e, horizon, m)
	}
}

func TestMayAndNextByTheWords(t *testing.T) {
	for _, l := range rights() {
		for _, e := range events() {
			for _, h := range horizons {
				fitsAsPlain(t, l, e, h)
			}
		}
	}
}

// The events above are such that each error comes up alone, and with each other one with which it can be.
func TestSamplesHaveAllWhys(t *testing.T) {
	seen := map[[2]api.Errno]int{}
	for _, l := range rights() {
		for _, e := range events() {
			for _, h := range horizons {
				for i, a := range plainWhys(l, e, h) {
					for _, b := range plainWhys(l, e, h)[i:] {
						seen[[2]api.Errno{a, b}]++
					}
				}
			}
		}
	}
	all := []api.Errno{api.ErrRouter, api.ErrSeq, api.ErrTime, api.ErrState, api.ErrFull}
	for i, a := range all {
		for _, b := range all[i:] {
			if a == api.ErrState && b == api.ErrFull {
				continue // that is ErrRouter, too
			}
			if seen[[2]api.Errno{a, b}] == 0 {
				t.Errorf("no sample has the errors %d and %d", a, b)
			}
		}
	}
}

// What is not right is told first, and all else is zero.
func TestWhatIsNotRightIsRefused(t *testing.T) {
	ask := func(l []api.Seat, e api.Event, horizon int64, want api.Errno) {
		t.Helper()
		if why := order.May(l, e, horizon); why != want {
			t.Errorf("May(%v, %v, %d): error %d, not %d", l, e, horizon, why, want)
		}
		if m, why := order.Next(l, e, horizon); len(m) != 0 || why != want {
			t.Errorf("Next(%v, %v, %d): %v, error %d, not %d", l, e, horizon, m, why, want)
		}
	}
	fine := []api.Event{event(api.EventUp, 1, 1, 7), event(api.EventAdd, 2, 4, 7), event(api.EventDown, 3, 1, 0)}
	for _, h := range slices.Concat(horizons, wrongHorizons) {
		for _, l := range wrongs() {
			for _, e := range slices.Concat(fine, wrongEvents()) {
				ask(l, e, h, api.ErrForm)
			}
		}
		for _, l := range rights() {
			for _, e := range wrongEvents() {
				ask(l, e, h, api.ErrForm)
			}
		}
	}
	for _, h := range wrongHorizons {
		for _, l := range rights() {
			for _, e := range fine {
				ask(l, e, h, api.ErrRange)
			}
		}
	}
}

func TestNextSeats(t *testing.T) {
	l := []api.Seat{{Router: 2, Seq: 3, Time: 7, Up: true}, {Router: 4, Seq: 1, Time: 7}}
	for _, c := range []struct {
		e    api.Event
		want []api.Seat
	}{
		{event(api.EventUp, 0, 1, 9), []api.Seat{{Router: 0, Seq: 1, Time: 9, Up: true}, l[0], l[1]}},
		{event(api.EventUp, 3, 1, 9), []api.Seat{l[0], {Router: 3, Seq: 1, Time: 9, Up: true}, l[1]}},
		{event(api.EventUp, 5, 1, 9), []api.Seat{l[0], l[1], {Router: 5, Seq: 1, Time: 9, Up: true}}},
		{event(api.EventUp, 4, 2, 7), []api.Seat{l[0], {Router: 4, Seq: 2, Time: 7, Up: true}}},
		{event(api.EventDown, 2, 4, 8), []api.Seat{{Router: 2, Seq: 4, Time: 8}, l[1]}},
		{event(api.EventAdd, 2, 4, 8), []api.Seat{{Router: 2, Seq: 4, Time: 8, Up: true}, l[1]}},
		{event(api.EventWithdraw, 2, 4, 8), []api.Seat{{Router: 2, Seq: 4, Time: 8, Up: true}, l[1]}},
		{event(api.EventLinkUp, 2, 4, 8), []api.Seat{{Router: 2, Seq: 4, Time: 8, Up: true}, l[1]}},
		{event(api.EventLinkDown, 2, 4, 8), []api.Seat{{Router: 2, Seq: 4, Time: 8, Up: true}, l[1]}},
	} {
		if m, why := order.Next(l, c.e, -1); !slices.Equal(m, c.want) || why != api.OK {
			t.Errorf("Next(%v): %v, error %d, not %v", c.e, m, why, c.want)
		}
	}
}

// MaxRouters are taken, and no one more.
func TestRoutersUpToTheLimit(t *testing.T) {
	var l []api.Seat
	for i := range api.MaxRouters {
		router := api.MaxId - i*i // they come from behind
		m, why := order.Next(l, event(api.EventUp, router, 1, 3), -1)
		if why != api.OK || len(m) != i+1 || order.Check(m) != api.OK {
			t.Fatalf("router %d: %v, error %d", router, m, why)
		}
		l = m
	}
	if m, why := order.Next(l, event(api.EventUp, 0, 1, 3), -1); !slices.Equal(m, l) || why != api.ErrFull {
		t.Errorf("one router more: %d seats, error %d", len(m), why)
	}
	if m, why := order.Next(l, event(api.EventDown, api.MaxId, 2, 3), -1); len(m) != api.MaxRouters || why != api.OK {
		t.Errorf("the next one of a router that is there: %d seats, error %d", len(m), why)
	}
}

// anyOf answers one of some things by chance.
func anyOf[T any](r *rand.Rand, l []T) T {
	return l[r.Intn(len(l))]
}

// plays are events of a few routers by chance, about half of which fit.
func plays(r *rand.Rand, many int) []api.Event {
	seqs, times, ups := [5]uint64{}, [5]int64{}, [5]bool{}
	var l []api.Event
	for range many {
		i := r.Intn(5)
		kind := anyOf(r, kinds)
		if !ups[i] {
			kind = api.EventUp
		}
		e := event(kind, i*3, seqs[i]+1, times[i]+int64(r.Intn(3)))
		switch r.Intn(9) {
		case 0:
			e.Seq += uint64(r.Intn(2))
		case 1:
			e.Time = max(e.Time-2, 0)
		case 2:
			e = event(anyOf(r, kinds), i*3, e.Seq, e.Time)
		case 3:
			if len(l) > 0 {
				e = anyOf(r, l)
			}
		}
		if e.Router == i*3 && e.Seq == seqs[i]+1 && e.Time >= times[i] && (e.Kind == api.EventUp) != ups[i] {
			seqs[i], times[i], ups[i] = e.Seq, e.Time, e.Kind != api.EventDown
		}
		l = append(l, e)
	}
	return l
}

// allAsNext holds All against Next, event by event, of right or wrong things.
func allAsNext(t *testing.T, l []api.Seat, events []api.Event, horizon int64) {
	t.Helper()
	want, many, no := l, 0, api.OK
	for _, e := range events {
		m, why := order.Next(want, e, horizon)
		if why != api.OK {
			no = why
			break
		}
		want = m
		many++
	}
	if m, n, why := order.All(l, events, horizon); !slices.Equal(m, want) || n != many || why != no {
		t.Fatalf("All(%v, %v, %d): %v, %d, error %d, not %v, %d, %d", l, events, horizon, m, n, why, want, many, no)
	}
}

func TestAllIsNextEventByEvent(t *testing.T) {
	up, link, down := event(api.EventUp, 2, 1, 5), event(api.EventLinkUp, 2, 2, 5), event(api.EventDown, 2, 3, 9)
	for _, c := range []struct {
		l       []api.Seat
		events  []api.Event
		horizon int64
		want    []api.Seat
		many    int
		why     api.Errno
	}{
		{nil, nil, -1, nil, 0, api.OK},
		{full(), nil, -1, full(), 0, api.OK},
		{full(), []api.Event{}, api.MaxTime, full(), 0, api.OK},
		{nil, []api.Event{up, link, down}, -1, []api.Seat{{Router: 2, Seq: 3, Time: 9}}, 3, api.OK},
		{nil, []api.Event{up, link, link, down}, -1, []api.Seat{{Router: 2, Seq: 2, Time: 5, Up: true}}, 2, api.ErrSeq},
		{nil, []api.Event{up, link, {}, down}, -1, []api.Seat{{Router: 2, Seq: 2, Time: 5, Up: true}}, 2, api.ErrForm},
		{nil, []api.Event{up, down}, -1, []api.Seat{{Router: 2, Seq: 1, Time: 5, Up: true}}, 1, api.ErrSeq},
		{nil, []api.Event{link}, -1, nil, 0, api.ErrRouter},
		{nil, []api.Event{up}, 5, nil, 0, api.ErrTime},
		{nil, []api.Event{up}, -2, nil, 0, api.ErrRange},
		{nil, []api.Event{{}}, -2, nil, 0, api.ErrForm},
		{full(), []api.Event{event(api.EventDown, 0, 2, 7), event(api.EventUp, 1, 1, 7)}, -1, append([]api.Seat{{Router: 0, Seq: 2, Time: 7}}, full()[1:]...), 1, api.ErrFull},
	} {
		if m, n, why := order.All(c.l, c.events, c.horizon); !slices.Equal(m, c.want) || n != c.many || why != c.why {
			t.Errorf("All(%v, %v, %d): %v, %d, error %d, not %v, %d, %d", c.l, c.events, c.horizon, m, n, why, c.want, c.many, c.why)
		}
	}
	r := rand.New(rand.NewSource(14))
	for range 2000 {
		some := plays(r, r.Intn(40))
		allAsNext(t, nil, some, anyOf(r, horizons))
		allAsNext(t, anyOf(r, rights()), some, -1)
		allAsNext(t, anyOf(r, rights()), slices.Insert(some, r.Intn(len(some)+1), anyOf(r, wrongEvents())), -1)
		allAsNext(t, anyOf(r, rights()), some, anyOf(r, wrongHorizons))
		allAsNext(t, anyOf(r, wrongs()), some, -1)
	}
}

// 14.3

// spoil turns all that a list has room for.
func spoil[T any](l []T, to T) {
	for i := range l[:cap(l)] {
		l[:cap(l)][i] = to
	}
}

// roomy is a list with room behind it, which is anyone's.
func roomy(l []api.Seat) []api.Seat {
	return append(slices.Clone(l), make([]api.Seat, 4)...)[:len(l)]
}

// What is answered and what was handed in are turned in turn, and each leaves the other one as it was.
func TestSeatsAreNewMemory(t *testing.T) {
	junk := api.Seat{Router: -7, Seq: 77, Time: -777, Up: true}
	taken := []api.Event{event(api.EventUp, 1, 1, 7), event(api.EventUp, 200, 1, 7), event(api.EventDown, 2, 4, 7), event(api.EventUp, 2, 4, 7)}
	refused := []api.Event{event(api.EventAdd, 1, 1, 7), event(api.EventUp, 200, 2, 7), event(api.EventDown, 2, 9, 7)}
	for _, plain := range slices.Concat(rights(), wrongs()) {
		for _, e := range slices.Concat(taken, refused) {
			for name, call := range map[string]func(l []api.Seat) []api.Seat{
				"Next":        func(l []api.Seat) []api.Seat { m, _ := order.Next(l, e, -1); return m },
				"All of none": func(l []api.Seat) []api.Seat { m, _, _ := order.All(l, nil, -1); return m },
				"All of one":  func(l []api.Seat) []api.Seat { m, _, _ := order.All(l, []api.Event{e}, -1); return m },
				"All of two":  func(l []api.Seat) []api.Seat { m, _, _ := order.All(l, []api.Event{e, e}, -1); return m },
			} {
				l := roomy(plain)
				m, other := call(l), call(l)
				if !slices.Equal(l, plain) || !slices.Equal(l[:cap(l)][len(l):], make([]api.Seat, cap(l)-len(l))) {
					t.Fatalf("%s of %v turned seats: %v", name, e, l[:cap(l)])
				}
				want := slices.Clone(m)
				spoil(l, junk)
				spoil(other, junk)
				if !slices.Equal(m, want) {
					t.Fatalf("%s of %v shares memory: %v", name, e, m)
				}
			}
		}
	}
}

func TestEventsStayAsTheyAre(t *testing.T) {
	r := rand.New(rand.NewSource(143))
	some := plays(r, 200)
	was := slices.Clone(some)
	order.All(nil, some, -1)
	if !slices.Equal(some, was) {
		t.Error("All turned events")
	}
}

// 14.4

func TestByItself(t *testing.T) {
	for _, l := range rights() {
		for _, e := range events() {
			for _, h := range horizons {
				var own []api.Seat
				if s, is := order.Find(l, e.Router); is {
					own = []api.Seat{s}
				}
				why, alone := order.May(l, e, h), order.May(own, e, h)
				if why != alone && !(why == api.ErrFull && alone == api.OK && len(own) == 0 && len(l) == api.MaxRouters) {
					t.Fatalf("May(%v, %v, %d): error %d, and alone %d", l, e, h, why, alone)
				}
				m, _ := order.Next(l, e, h)
				isOwn := func(s api.Seat) bool { return s.Router == e.Router }
				if !slices.Equal(slices.DeleteFunc(slices.Clone(l), isOwn), slices.DeleteFunc(m, isOwn)) {
					t.Fatalf("Next(%v, %v, %d) turned another seat", l, e, h)
				}
			}
		}
	}
}

// 14.5

func TestInARow(t *testing.T) {
	r := rand.New(rand.NewSource(145))
	for range 300 {
		var l []api.Seat
		var taken []api.Event
		last := map[int]api.Event{}
		for _, e := range plays(r, 60) {
			fitsAsPlain(t, l, e, -1)
			m, why := order.Next(l, e, -1)
			l = m
			if why != api.OK {
				continue
			}
			if was, is := last[e.Router]; is && (e.Seq != was.Seq+1 || e.Time < was.Time) || !is && e.Seq != 1 {
				t.Fatalf("%v was taken behind %v", e, was)
			}
			last[e.Router] = e
			taken = append(taken, e)
			for _, old := range taken {
				for _, h := range []int64{-1, 0, 3} {
					if why := order.May(l, old, h); why == api.OK {
						t.Fatalf("%v was taken once, and may be taken again by %v", old, l)
					}
				}
			}
		}
		if len(taken) == 0 {
			t.Fatal("nothing was taken")
		}
	}
}

// P1, P3, P4

func FuzzAnyNumbers(f *testing.F) {
	f.Add(2, uint64(3), int64(7), true, 5, uint64(1), int64(0), uint8(1), 2, uint64(4), int64(8), int64(-1))
	f.Add(-1, uint64(0), int64(-1), false, -1, uint64(0), int64(0), uint8(9), -1, uint64(0), int64(-7), int64(math.MaxInt64))
	f.Fuzz(func(t *testing.T, a int, seqA uint64, timeA int64, isUp bool, b int, seqB uint64, timeB int64, kind uint8, router int, seq uint64, time, horizon int64) {
		l := []api.Seat{{Router: a, Seq: seqA, Time: timeA, Up: isUp}, {Router: b, Seq: seqB, Time: timeB, Up: !isUp}}
		e := event(api.EventKind(kind), router, seq, time)
		why := order.May(l, e, horizon)
		m, no := order.Next(l, e, horizon)
		order.Find(l, router)
		allAsNext(t, l, []api.Event{e, e}, horizon)
		switch {
		case why != no:
			t.Fatalf("May and Next: errors %d and %d", why, no)
		case why == api.ErrForm || why == api.ErrRange:
			if len(m) != 0 {
				t.Fatalf("Next: %v, error %d", m, why)
			}
		default:
			fitsAsPlain(t, l, e, horizon)
		}
	})
}

// Many events take no longer than their number asks for.
func TestManyEvents(t *testing.T) {
	some := []api.Event{event(api.EventUp, 4, 1, 0)}
	for i := range 1 << 16 {
		some = append(some, event(api.EventAdd, 4, uint64(i+2), int64(i/5)))
	}
	if l, n, why := order.All(full()[2:], some, -1); len(l) != api.MaxRouters-1 || n != len(some) || why != api.OK {
		t.Errorf("All: %d seats, %d taken, error %d", len(l), n, why)
	}
}

func TestAnswersHangOnArgumentsAlone(t *testing.T) {
	r := rand.New(rand.NewSource(140))
	some := plays(r, 60)
	l, n, why := order.All(nil, some, -1)
	for range 3 {
		order.Next(full(), event(api.EventDown, 0, 2, 7), -1)
		for _, none := range [][]api.Seat{nil, {}, make([]api.Seat, 0, 9)} {
			if m, k, no := order.All(none, slices.Clone(some), -1); !slices.Equal(m, l) || k != n || no != why {
				t.Fatalf("All turned: %v, %d, error %d", m, k, no)
			}
		}
	}
}

func TestNoGoroutineIsLeft(t *testing.T) {
	before := runtime.NumGoroutine()
	for _, l := range slices.Concat(rights(), wrongs()) {
		order.Check(l)
		order.Find(l, 2)
		for _, e := range wrongEvents() {
			order.May(l, e, -1)
			order.Next(l, e, -1)
		}
		order.All(l, plays(rand.New(rand.NewSource(1)), 20), -1)
	}
	if after := runtime.NumGoroutine(); after > before {
		t.Errorf("%d goroutines, and %d ahead of the calls", after, before)
	}
}
