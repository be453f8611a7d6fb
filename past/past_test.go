package past_test

import (
	"math"
	"math/rand"
	"runtime"
	"slices"
	"testing"

	"spoor/api"
	"spoor/net"
	"spoor/past"
)

// The calls have the signatures of doc/21-past.md.
var (
	_ func(api.Past) api.Errno                        = past.Check
	_ func() api.Past                                 = past.Make
	_ func(api.Past) (api.Net, api.Errno)             = past.Now
	_ func(api.Past, int64) (api.Net, api.Errno)      = past.At
	_ func(api.Past, api.Event) (api.Past, api.Errno) = past.Take
	_ func(api.Past, api.Ivl) ([]int64, api.Errno)    = past.Times
	_ func(api.Past, int64) (api.Past, api.Errno)     = past.Retain
	_ func(api.Past) (int, api.Errno)                 = past.Weight
)

// What follows is plain, by the document's words, which name the calls of net.

func plainWeight(p api.Past) int {
	many := 0
	for _, r := range p.Base.Routers {
		many += len(r.Routes) + len(r.Links)
	}
	for _, e := range p.Events {
		switch e.Kind {
		case api.EventAdd, api.EventLinkUp:
			many++
		}
	}
	return many
}

func plainCheck(p api.Past) api.Errno {
	if p.Horizon < -1 || p.Horizon > 1<<40 || net.Check(p.Base) != api.OK || len(p.Events) > 1024 {
		return api.ErrForm
	}
	for _, s := range p.Base.Seats {
		if s.Time > p.Horizon {
			return api.ErrForm
		}
	}
	n := p.Base
	for _, e := range p.Events {
		next, why := net.Apply(n, e, p.Horizon)
		if why != api.OK {
			return api.ErrForm
		}
		n = next
	}
	if plainWeight(p) > 1024 {
		return api.ErrForm
	}
	return api.OK
}

// plainNet is the net at a time of a right past.
func plainNet(t *testing.T, p api.Past, time int64) api.Net {
	t.Helper()
	n := p.Base
	for _, e := range p.Events {
		if e.Time > time {
			continue
		}
		next, why := net.Apply(n, e, p.Horizon)
		if why != api.OK {
			t.Fatalf("%v is not taken by the net at %d: error %d", e, time, why)
		}
		n = next
	}
	return n
}

func plainTake(t *testing.T, p api.Past, e api.Event) (api.Past, api.Errno) {
	t.Helper()
	_, why := net.Apply(plainNet(t, p, math.MaxInt64), e, p.Horizon)
	if why == api.ErrForm {
		return api.Past{}, why
	}
	if why != api.OK {
		return p, why
	}
	more := p
	more.Events = append(slices.Clone(p.Events), e)
	if len(more.Events) > 1024 || plainWeight(more) > 1024 {
		return p, api.ErrFull
	}
	return more, api.OK
}

// plainTimes looks at each time by itself; a window is short enough.
func plainTimes(p api.Past, w api.Ivl) []int64 {
	var l []int64
	for at := w.From + 1; at <= w.To; at++ {
		if slices.ContainsFunc(p.Events, func(e api.Event) bool { return e.Time == at }) {
			l = append(l, at)
		}
	}
	return l
}

func plainRetain(t *testing.T, p api.Past, time int64) api.Past {
	t.Helper()
	q := api.Past{Base: plainNet(t, p, time), Horizon: time}
	for _, e := range p.Events {
		if e.Time > time {
			q.Events = append(q.Events, e)
		}
	}
	return q
}

func sameRouter(a, b api.Router) bool {
	return a.Id == b.Id && a.Up == b.Up && slices.Equal(a.Routes, b.Routes) && slices.Equal(a.Links, b.Links)
}

// sameNet tells whether nets are alike: nil and empty lists are.
func sameNet(a, b api.Net) bool {
	return slices.Equal(a.Seats, b.Seats) && slices.EqualFunc(a.Routers, b.Routers, sameRouter)
}

func same(a, b api.Past) bool {
	return sameNet(a.Base, b.Base) && a.Horizon == b.Horizon && slices.Equal(a.Events, b.Events)
}

// Samples.

var (
	deliver = api.Action{Kind: api.ActionDeliver}
	by3     = api.Action{Kind: api.ActionForward, Iface: 3}
	actions = []api.Action{deliver, {Kind: api.ActionDiscard}, by3}
	ten     = api.Prefix{Addr: api.Addr{Lo: 10 << 24}, Len: 8}
	kinds   = []api.EventKind{api.EventUp, api.EventDown, api.EventAdd, api.EventWithdraw, api.EventLinkUp, api.EventLinkDown}
)

// event is a right one, if its numbers are.
func event(kind api.EventKind, router int, seq uint64, time int64) api.Event {
	e := api.Event{Kind: kind, Router: router, Seq: seq, Time: time}
	switch kind {
	case api.EventAdd:
		e.Prefix, e.Action = ten, by3
	case api.EventWithdraw:
		e.Prefix = ten
	case api.EventLinkUp:
		e.Iface, e.Peer = 3, 7
	case api.EventLinkDown:
		e.Iface = 3
	}
	return e
}

// manyRoutes are that many right routes.
func manyRoutes(many int) []api.Route {
	l := make([]api.Route, many)
	for i := range l {
		l[i] = api.Route{Prefix: api.Prefix{Addr: api.Addr{Lo: 10<<24 + uint64(i)<<8}, Len: 24}, Action: actions[i%3]}
	}
	return l
}

// manyLinks are that many right links.
func manyLinks(many int) []api.Link {
	l := make([]api.Link, many)
	for i := range l {
		l[i] = api.Link{Iface: 3 + i, Peer: i * 5 % 9}
	}
	return l
}

// seated is a right net of right routers that rise, whose last events had the Seq 3 and the Time 7.
func seated(l ...api.Router) api.Net {
	n := api.Net{Routers: l}
	for _, r := range l {
		n.Seats = append(n.Seats, api.Seat{Router: r.Id, Seq: 3, Time: 7, Up: r.Up})
	}
	return n
}

// heavy is a net of 1024 less that many routes and links, and of routers 1 to 4 and 9.
func heavy(less int) api.Net {
	var l []api.Router
	for id := 1; id <= 4; id++ {
		l = append(l, api.Router{Id: id, Up: true, Routes: manyRoutes(250), Links: manyLinks(6)})
	}
	l[3].Routes = l[3].Routes[:250-less]
	return seated(append(l, api.Router{Id: 9, Up: true})...)
}

// restless is that many events of a router, none of which adds anything, at the times from 1 on.
func restless(router, many int) []api.Event {
	var l []api.Event
	for i := range many {
		l = append(l, event(kinds[i%2], router, uint64(i)+1, int64(i)+1))
	}
	return l
}

// eager is that many events, 4's beginning and links that come, by turns, at the times from 1 on.
func eager(many int) []api.Event {
	l := []api.Event{event(api.EventUp, 4, 1, 1)}
	for i := 1; i < many; i++ {
		l = append(l, event(api.EventLinkUp, 4, uint64(i)+1, int64(i)+1))
	}
	return l
}

// linked is the past of the document's stage: 4 begins at 5, and has a link at 8; 2 begins at 6, which was told later.
func linked() api.Past {
	return api.Past{Horizon: -1, Events: []api.Event{
		event(api.EventUp, 4, 1, 5), event(api.EventLinkUp, 4, 2, 8), event(api.EventUp, 2, 1, 6), event(api.EventAdd, 2, 2, 6), event(api.EventAdd, 4, 3, 8), event(api.EventDown, 2, 3, 12),
	}}
}

// based is of a net that was, at the horizon 7, and of later events.
func based() api.Past {
	n := seated(api.Router{Id: 2, Up: true, Routes: manyRoutes(3), Links: manyLinks(2)}, api.Router{Id: 5})
	return api.Past{Base: n, Horizon: 7, Events: []api.Event{
		event(api.EventAdd, 2, 4, 11), event(api.EventUp, 5, 4, 8), event(api.EventUp, 9, 1, 9), event(api.EventWithdraw, 2, 5, 11), event(api.EventLinkUp, 5, 5, 10),
	}}
}

// rights are right pasts.
func rights() []api.Past {
	return []api.Past{
		{},
		{Horizon: -1},
		{Horizon: -1, Base: api.Net{Seats: []api.Seat{}, Routers: []api.Router{}}, Events: []api.Event{}},
		{Horizon: api.MaxTime},
		{Horizon: api.MaxTime, Base: based().Base},
		{Horizon: api.MaxTime - 1, Events: []api.Event{event(api.EventUp, 4, 1, api.MaxTime)}},
		linked(), based(),
		{Horizon: 7, Base: heavy(0)},
		{Horizon: 7, Base: heavy(1), Events: []api.Event{event(api.EventAdd, 9, 4, 8)}},
		{Horizon: 7, Base: heavy(2), Events: []api.Event{event(api.EventLinkUp, 9, 4, 8), event(api.EventAdd, 9, 5, 9)}},
		{Horizon: 7, Base: heavy(0), Events: []api.Event{event(api.EventDown, 2, 4, 9), event(api.EventUp, 2, 5, 9)}},
		{Horizon: 7, Base: heavy(3), Events: []api.Event{event(api.EventAdd, 9, 4, 8), event(api.EventAdd, 9, 5, 8)}},
		{Horizon: -1, Events: restless(4, api.MaxEvents)},
		{Horizon: 0, Events: restless(4, api.MaxEvents-1)},
		{Horizon: -1, Events: eager(api.MaxEvents)},
	}
}

// wrongs are pasts that are not right.
func wrongs() []api.Past {
	with := func(l ...api.Event) api.Past { return api.Past{Horizon: 7, Events: l} }
	late := based()
	late.Horizon = 6
	wrong := based()
	wrong.Base.Routers[0].Id = 3
	return []api.Past{
		{Horizon: -2}, {Horizon: api.MaxTime + 1}, {Horizon: math.MinInt64}, {Horizon: math.MaxInt64},
		late, wrong,
		{Horizon: -1, Base: based().Base},
		{Base: api.Net{Seats: make([]api.Seat, 1)}},
		{Base: api.Net{Routers: make([]api.Router, 1)}},
		with(api.Event{}),
		with(event(api.EventUp, 4, 1, 7)),
		with(event(api.EventUp, 4, 1, 6)),
		with(event(api.EventUp, 4, 2, 8)),
		with(event(api.EventAdd, 4, 1, 8)),
		with(event(api.EventUp, 4, 1, 8), event(api.EventUp, 4, 2, 8)),
		with(event(api.EventUp, 4, 1, 9), event(api.EventDown, 4, 2, 8)),
		with(event(api.EventUp, 4, 1, 9), event(api.EventDown, 4, 1, 9)),
		with(event(api.EventUp, 4, 1, 9), event(api.EventDown, 4, 2, 9), event(api.EventAdd, 4, 3, 9)),
		with(event(api.EventUp, 4, 1, api.MaxTime+1)),
		with(event(api.EventUp, -1, 1, 8)),
		{Horizon: 7, Base: heavy(0), Events: []api.Event{event(api.EventAdd, 9, 4, 8)}},
		{Horizon: 7, Base: heavy(0), Events: []api.Event{event(api.EventDown, 2, 4, 9), event(api.EventAdd, 9, 4, 9)}},      // there is room, but it weighs too much
		{Horizon: 7, Base: heavy(0), Events: []api.Event{event(api.EventLinkUp, 2, 4, 9)}},                                  // in the place of another one
		{Horizon: 7, Base: heavy(1), Events: []api.Event{event(api.EventLinkUp, 9, 4, 8), event(api.EventLinkUp, 9, 5, 8)}}, // twice the same
		{Horizon: 7, Base: heavy(1), Events: []api.Event{event(api.EventAdd, 9, 4, 8), event(api.EventLinkUp, 9, 5, 9)}},
		{Horizon: -1, Events: restless(4, api.MaxEvents+1)},
		{Horizon: -1, Events: make([]api.Event, 1<<20)},
		{Horizon: 7, Base: seated(make([]api.Router, 1<<16)...)},
	}
}

func wrongEvents() []api.Event {
	return []api.Event{
		{}, event(api.EventCount, 4, 4, 20), event(255, 4, 4, 20), event(api.EventUp, -1, 1, 20), event(api.EventUp, api.MaxId+1, 1, 20),
		event(api.EventUp, 6, 0, 20), event(api.EventUp, 6, 1, -1), event(api.EventUp, 6, 1, api.MaxTime+1), {Kind: api.EventUp, Router: 6, Seq: 1, Time: 20, Peer: 7},
		{Kind: api.EventAdd, Router: 4, Seq: 4, Time: 20},
	}
}

// events are right ones, at the edges of what the samples take.
func events() []api.Event {
	var l []api.Event
	for _, kind := range kinds {
		for _, router := range []int{2, 4, 5, 9, 70} {
			for _, seq := range []uint64{1, 3, 4, 5, 6, 1024, 1025} {
				for _, time := range []int64{7, 8, 12, 1024, api.MaxTime} {
					l = append(l, event(kind, router, seq, time))
				}
			}
		}
	}
	return l
}

var (
	someTimes  = []int64{0, 1, 4, 5, 6, 7, 8, 9, 10, 11, 12, 13, 500, 1023, 1024, 1025, api.MaxTime - 1, api.MaxTime}
	wrongTimes = []int64{-1, -2, math.MinInt64, api.MaxTime + 1, math.MaxInt64}
)

// someEvents are of a few routers by chance, and fit one behind the other, of an empty net. Each router has times of its own.
func someEvents(r *rand.Rand, many int) []api.Event {
	seqs, times, ups := [5]uint64{}, [5]int64{}, [5]bool{}
	var l []api.Event
	for range many {
		i := r.Intn(5)
		kind := api.EventUp
		if ups[i] {
			kind = kinds[1+r.Intn(5)]
		}
		e := event(kind, i*3, seqs[i]+1, times[i]+int64(r.Intn(4)))
		switch kind {
		case api.EventAdd, api.EventWithdraw:
			e.Prefix = api.Prefix{Six: r.Intn(3) == 0, Len: r.Intn(9)}
		case api.EventLinkUp, api.EventLinkDown:
			e.Iface = r.Intn(5)
		}
		if kind == api.EventAdd {
			e.Action = actions[r.Intn(3)]
		}
		seqs[i], times[i], ups[i] = e.Seq, e.Time, kind != api.EventDown
		l = append(l, e)
	}
	return l
}

// somePast is a right past by chance, now and then of something that was retained.
func somePast(t *testing.T, r *rand.Rand) api.Past {
	t.Helper()
	p := api.Past{Horizon: -1, Events: someEvents(r, r.Intn(50))}
	if r.Intn(2) == 0 {
		p = plainRetain(t, p, int64(r.Intn(12)))
	}
	return p
}

// 21.1

func TestCheckTakesWhatIsRight(t *testing.T) {
	for i, p := range rights() {
		if plainCheck(p) != api.OK {
			t.Fatalf("the sample %d, %v, is wrong", i, p)
		}
		if why := past.Check(p); why != api.OK {
			t.Errorf("Check(%v): error %d", p, why)
		}
	}
}

func TestCheckRefusesWhatIsNotRight(t *testing.T) {
	for i, p := range wrongs() {
		if plainCheck(p) != api.ErrForm {
			t.Fatalf("the sample %d, %v, is right", i, p)
		}
		if why := past.Check(p); why != api.ErrForm {
			t.Errorf("Check(%v): error %d", p, why)
		}
	}
}

func TestASeatAboveTheHorizonIsNotRight(t *testing.T) {
	for i := range 5 {
		p := api.Past{Base: heavy(0), Horizon: 7}
		p.Base.Seats[i].Time = 8
		if why := past.Check(p); why != api.ErrForm {
			t.Errorf("Check with a late seat at %d: error %d", i, why)
		}
		p.Horizon = 8
		if why := past.Check(p); why != api.OK {
			t.Errorf("Check with the seat's time as horizon: error %d", why)
		}
	}
}

func TestMakeIsOfNothing(t *testing.T) {
	if p := past.Make(); !same(p, api.Past{Horizon: -1}) || past.Check(p) != api.OK {
		t.Errorf("Make(): %v", p)
	}
}

// What is not right is told first, and all else is zero.
func TestPastsThatAreNotRightAreRefused(t *testing.T) {
	for _, p := range wrongs() {
		if n, why := past.Now(p); !sameNet(n, api.Net{}) || why != api.ErrForm {
			t.Errorf("Now(%v): %v, error %d", p, n, why)
		}
		if many, why := past.Weight(p); many != 0 || why != api.ErrForm {
			t.Errorf("Weight(%v): %d, error %d", p, many, why)
		}
		for _, at := range []int64{-1, 0, 6, 7, 8, api.MaxTime + 1} {
			if n, why := past.At(p, at); !sameNet(n, api.Net{}) || why != api.ErrForm {
				t.Errorf("At(%v, %d): %v, error %d", p, at, n, why)
			}
			if q, why := past.Retain(p, at); !same(q, api.Past{}) || why != api.ErrForm {
				t.Errorf("Retain(%v, %d): %v, error %d", p, at, q, why)
			}
			for _, w := range []api.Ivl{{From: at, To: 9}, {From: 9, To: at}} {
				if l, why := past.Times(p, w); len(l) != 0 || why != api.ErrForm {
					t.Errorf("Times(%v, %v): %v, error %d", p, w, l, why)
				}
			}
		}
		for _, e := range append(wrongEvents(), event(api.EventUp, 70, 1, 20), event(api.EventUp, 70, 2, 20), event(api.EventUp, 70, 1, 0)) {
			if q, why := past.Take(p, e); !same(q, api.Past{}) || why != api.ErrForm {
				t.Errorf("Take(%v, %v): %v, error %d", p, e, q, why)
			}
		}
	}
}

func TestNowIsBehindAllEvents(t *testing.T) {
	for _, p := range rights() {
		want := plainNet(t, p, math.MaxInt64)
		if n, why := past.Now(p); !sameNet(n, want) || why != api.OK {
			t.Errorf("Now(%v): %v, error %d, not %v", p, n, why, want)
		}
	}
}

func TestWeight(t *testing.T) {
	for _, c := range []struct {
		p    api.Past
		want int
	}{
		{past.Make(), 0},
		{linked(), 3},
		{based(), 7},
		{api.Past{Horizon: 7, Base: heavy(0)}, 1024},
		{api.Past{Horizon: 7, Base: heavy(2), Events: []api.Event{event(api.EventLinkUp, 9, 4, 8)}}, 1023},
		{api.Past{Horizon: -1, Events: restless(4, api.MaxEvents)}, 0},
		{api.Past{Horizon: -1, Events: eager(api.MaxEvents)}, 1023},
		{api.Past{Horizon: 7, Base: heavy(0), Events: []api.Event{event(api.EventDown, 2, 4, 9)}}, 1024},
	} {
		if many, why := past.Weight(c.p); many != c.want || why != api.OK {
			t.Errorf("Weight(%v): %d, error %d, not %d", c.p, many, why, c.want)
		}
	}
	for _, p := range rights() {
		if many, why := past.Weight(p); many != plainWeight(p) || why != api.OK {
			t.Errorf("Weight(%v): %d, error %d", p, many, why)
		}
	}
}

// 21.2

func TestExample(t *testing.T) {
	p, why := past.Take(past.Make(), event(api.EventUp, 4, 1, 5))
	if why != api.OK {
		t.Fatalf("Take: error %d", why)
	}
	for at, want := range map[int64]int{4: 0, 5: 1, 6: 1} {
		if n, why := past.At(p, at); len(n.Routers) != want || why != api.OK {
			t.Errorf("At %d: %v, error %d", at, n, why)
		}
	}
	q, why := past.Retain(p, 7)
	if why != api.OK {
		t.Fatalf("Retain: error %d", why)
	}
	if n, why := past.At(q, 5); !sameNet(n, api.Net{}) || why != api.ErrExpired {
		t.Errorf("At 5, retained to 7: %v, error %d", n, why)
	}
}

// expired is why nothing is told of a time.
func expired(p api.Past, at int64) api.Errno {
	switch {
	case at < 0 || at > 1<<40:
		return api.ErrRange
	case at < p.Horizon:
		return api.ErrExpired
	}
	return api.OK
}

func TestAt(t *testing.T) {
	for _, p := range rights() {
		for _, at := range slices.Concat(someTimes, wrongTimes) {
			no, want := expired(p, at), api.Net{}
			if no == api.OK {
				want = plainNet(t, p, at)
			}
			if n, why := past.At(p, at); !sameNet(n, want) || why != no {
				t.Fatalf("At(%v, %d): %v, error %d, not %v, %d", p, at, n, why, want, no)
			}
		}
	}
}

// Routers tell of times of their own: what was told later may be of an earlier time.
func TestWhatIsToldLaterMayBeEarlier(t *testing.T) {
	four := api.Seat{Router: 4, Seq: 1, Time: 5, Up: true}
	two := api.Seat{Router: 2, Seq: 2, Time: 6, Up: true}
	for at, want := range map[int64][]api.Seat{
		4: nil, 5: {four}, 6: {two, four}, 7: {two, four},
		8: {two, {Router: 4, Seq: 3, Time: 8, Up: true}}, 12: {{Router: 2, Seq: 3, Time: 12}, {Router: 4, Seq: 3, Time: 8, Up: true}},
	} {
		if n, why := past.At(linked(), at); !slices.Equal(n.Seats, want) || why != api.OK {
			t.Errorf("At %d: %v, error %d", at, n, why)
		}
	}
}

func TestTimesByCases(t *testing.T) {
	for _, c := range []struct {
		p    api.Past
		w    api.Ivl
		want []int64
		why  api.Errno
	}{
		{linked(), api.Ivl{From: 0, To: 20}, []int64{5, 6, 8, 12}, api.OK},
		{linked(), api.Ivl{From: 5, To: 9}, []int64{6, 8}, api.OK}, // not at its From
		{linked(), api.Ivl{From: 4, To: 12}, []int64{5, 6, 8, 12}, api.OK},
		{linked(), api.Ivl{From: 4, To: 11}, []int64{5, 6, 8}, api.OK},
		{linked(), api.Ivl{From: 8, To: 8}, nil, api.OK},
		{linked(), api.Ivl{From: 12, To: api.MaxTime}, nil, api.OK},
		{linked(), api.Ivl{From: -1, To: 9}, nil, api.ErrRange},
		{linked(), api.Ivl{From: 9, To: 8}, nil, api.ErrRange},
		{linked(), api.Ivl{From: 9, To: api.MaxTime + 1}, nil, api.ErrRange},
		{linked(), api.Ivl{From: math.MinInt64, To: math.MaxInt64}, nil, api.ErrRange},
		{based(), api.Ivl{From: 7, To: 20}, []int64{8, 9, 10, 11}, api.OK},
		{based(), api.Ivl{From: 10, To: 10}, nil, api.OK},
		{based(), api.Ivl{From: 6, To: 20}, nil, api.ErrExpired},
		{based(), api.Ivl{From: 6, To: 5}, nil, api.ErrRange}, // named first
		{api.Past{Horizon: api.MaxTime}, api.Ivl{From: api.MaxTime, To: api.MaxTime}, nil, api.OK},
		{api.Past{Horizon: api.MaxTime - 1, Events: []api.Event{event(api.EventUp, 4, 1, api.MaxTime)}}, api.Ivl{From: api.MaxTime - 1, To: api.MaxTime}, []int64{api.MaxTime}, api.OK},
	} {
		if l, why := past.Times(c.p, c.w); !slices.Equal(l, c.want) || why != c.why {
			t.Errorf("Times(%v, %v): %v, error %d, not %v, %d", c.p, c.w, l, why, c.want, c.why)
		}
	}
}

func TestTimesByTheWords(t *testing.T) {
	r := rand.New(rand.NewSource(212))
	for range 200 {
		p := somePast(t, r)
		for range 20 {
			w := api.Ivl{From: int64(r.Intn(20)), To: int64(r.Intn(40))}
			var want []int64
			no := expired(p, w.From)
			if w.From > w.To {
				no = api.ErrRange
			}
			if no == api.OK {
				want = plainTimes(p, w)
			}
			if l, why := past.Times(p, w); !slices.Equal(l, want) || why != no {
				t.Fatalf("Times(%v, %v): %v, error %d, not %v, %d", p, w, l, why, want, no)
			}
		}
	}
}

// 21.3

func takeAsPlain(t *testing.T, p api.Past, e api.Event) (api.Past, api.Errno) {
	t.Helper()
	want, no := plainTake(t, p, e)
	q, why := past.Take(p, e)
	if !same(q, want) || why != no {
		t.Fatalf("Take(%v, %v): %v, error %d, not %v, %d", p, e, q, why, want, no)
	}
	return q, why
}

func TestTakeByTheWords(t *testing.T) {
	seen := map[api.Errno]int{}
	for i, p := range rights() {
		some := slices.Concat(events(), wrongEvents())
		if len(p.Events) > 100 { // these are slow: a few will do
			some = slices.DeleteFunc(some, func(e api.Event) bool { return e.Router != 4 || e.Seq < 1024 || e.Time < 1024 })
		}
		for _, e := range some {
			if len(p.Events) <= 100 && (int(e.Seq)+e.Router+i)%3 != 0 && e.Seq > 6 {
				continue
			}
			_, why := takeAsPlain(t, p, e)
			seen[why]++
		}
	}
	for _, why := range []api.Errno{api.OK, api.ErrForm, api.ErrRouter, api.ErrSeq, api.ErrTime, api.ErrState, api.ErrFull} {
		if seen[why] == 0 {
			t.Errorf("no sample has the error %d", why)
		}
	}
}

func TestTakeByCases(t *testing.T) {
	p := based()
	for _, c := range []struct {
		e   api.Event
		why api.Errno
	}{
		{event(api.EventDown, 2, 6, 11), api.OK},
		{event(api.EventUp, 1, 1, 8), api.OK}, // ahead of others' times, but not of its own or of the horizon
		{event(api.EventUp, 1, 1, 7), api.ErrTime},
		{event(api.EventUp, 1, 1, 0), api.ErrTime},
		{event(api.EventDown, 2, 6, 10), api.ErrTime},
		{event(api.EventDown, 2, 5, 12), api.ErrSeq},
		{event(api.EventDown, 2, 7, 12), api.ErrSeq},
		{event(api.EventUp, 2, 6, 12), api.ErrState},
		{event(api.EventDown, 1, 1, 12), api.ErrRouter},
	} {
		want := p
		if c.why == api.OK {
			want.Events = append(slices.Clone(p.Events), c.e)
		}
		if q, why := past.Take(p, c.e); !same(q, want) || why != c.why {
			t.Errorf("Take(%v): %v, error %d, not %d", c.e, q, why, c.why)
		}
	}
}

// Two kinds of room are the past's own: for events, and for what they weigh.
func TestFull(t *testing.T) {
	down := event(api.EventDown, 4, 1024, 1024)
	p := api.Past{Horizon: -1, Events: restless(4, api.MaxEvents-1)}
	q, why := past.Take(p, down)
	if why != api.OK || past.Check(q) != api.OK {
		t.Fatalf("the last event for which there is room: error %d", why)
	}
	for _, e := range []api.Event{event(api.EventUp, 4, 1025, 1025), event(api.EventUp, 5, 1, 1)} {
		if u, why := past.Take(q, e); !same(u, q) || why != api.ErrFull {
			t.Errorf("an event too many: error %d", why)
		}
	}
	if u, why := past.Take(q, event(api.EventUp, 4, 1024, 1025)); !same(u, q) || why != api.ErrSeq { // net's errors are named first
		t.Errorf("an event too many that does not fit: error %d", why)
	}
	for _, c := range []struct {
		p   api.Past
		e   api.Event
		why api.Errno
	}{
		{api.Past{Horizon: 7, Base: heavy(1)}, event(api.EventAdd, 9, 4, 8), api.OK},
		{api.Past{Horizon: 7, Base: heavy(1)}, event(api.EventLinkUp, 9, 4, 8), api.OK},
		{api.Past{Horizon: 7, Base: heavy(0)}, event(api.EventAdd, 9, 4, 8), api.ErrFull},
		{api.Past{Horizon: 7, Base: heavy(0)}, event(api.EventLinkUp, 2, 4, 8), api.ErrFull}, // the net would not grow, the past does
		{api.Past{Horizon: 7, Base: heavy(0)}, event(api.EventWithdraw, 2, 4, 8), api.OK},
		{api.Past{Horizon: 7, Base: heavy(0)}, event(api.EventLinkDown, 2, 4, 8), api.OK},
		{api.Past{Horizon: 7, Base: heavy(0)}, event(api.EventDown, 2, 4, 8), api.OK},
		{api.Past{Horizon: 7, Base: heavy(0)}, event(api.EventUp, 70, 1, 8), api.OK},
		{api.Past{Horizon: 7, Base: heavy(0), Events: []api.Event{event(api.EventDown, 2, 4, 8)}}, event(api.EventAdd, 9, 4, 8), api.ErrFull}, // what went weighs still
		{api.Past{Horizon: 7, Base: heavy(1), Events: []api.Event{event(api.EventAdd, 9, 4, 8)}}, event(api.EventAdd, 9, 5, 8), api.ErrFull},
		{api.Past{Horizon: 7, Base: heavy(1), Events: []api.Event{event(api.EventAdd, 9, 4, 8)}}, event(api.EventWithdraw, 9, 5, 8), api.OK},
	} {
		want := c.p
		if c.why == api.OK {
			want.Events = append(slices.Clone(want.Events), c.e)
		}
		if q, why := past.Take(c.p, c.e); !same(q, want) || why != c.why {
			t.Errorf("Take of %v: error %d, not %d", c.e, why, c.why)
		}
	}
}

// Retained, there is room again for what went.
func TestRetainMakesRoom(t *testing.T) {
	p := api.Past{Horizon: 7, Base: heavy(0), Events: []api.Event{event(api.EventDown, 2, 4, 8)}}
	q, why := past.Retain(p, 8)
	if many, _ := past.Weight(q); many != 1024-256 || why != api.OK {
		t.Fatalf("Weight, retained: %d, error %d", many, why)
	}
	if _, why := past.Take(q, event(api.EventAdd, 9, 4, 9)); why != api.OK {
		t.Errorf("Take, retained: error %d", why)
	}
	full := api.Past{Horizon: -1, Events: restless(4, api.MaxEvents)}
	q, why = past.Retain(full, 1)
	if len(q.Events) != api.MaxEvents-1 || why != api.OK {
		t.Fatalf("Retain(1): %d events, error %d", len(q.Events), why)
	}
	if _, why := past.Take(q, event(api.EventUp, 4, 1025, 1025)); why != api.OK {
		t.Errorf("Take, retained: error %d", why)
	}
}

func TestRetain(t *testing.T) {
	for _, p := range rights() {
		for _, at := range slices.Concat(someTimes, wrongTimes) {
			want, no := p, expired(p, at)
			if no == api.OK {
				want = plainRetain(t, p, at)
			}
			if q, why := past.Retain(p, at); !same(q, want) || why != no {
				t.Fatalf("Retain(%v, %d): %v, error %d, not %v, %d", p, at, q, why, want, no)
			}
		}
	}
}

func TestRetainByCases(t *testing.T) {
	p := linked()
	q, why := past.Retain(p, 6)
	base := api.Net{
		Seats:   []api.Seat{{Router: 2, Seq: 2, Time: 6, Up: true}, {Router: 4, Seq: 1, Time: 5, Up: true}},
		Routers: []api.Router{{Id: 2, Up: true, Routes: []api.Route{{Prefix: ten, Action: by3}}}, {Id: 4, Up: true}},
	}
	want := api.Past{Base: base, Horizon: 6, Events: []api.Event{p.Events[1], p.Events[4], p.Events[5]}}
	if !same(q, want) || why != api.OK {
		t.Errorf("Retain(6): %v, error %d, not %v", q, why, want)
	}
	again, why := past.Retain(q, 6)
	if !same(again, want) || why != api.OK {
		t.Errorf("and again: %v, error %d", again, why)
	}
	if all, why := past.Retain(p, 12); len(all.Events) != 0 || all.Horizon != 12 || why != api.OK {
		t.Errorf("Retain(12): %v, error %d", all, why)
	}
}

// 21.4

// roomy is a list with room behind it, which is anyone's.
func roomy[T any](l []T) []T {
	return append(slices.Clone(l), make([]T, 4)...)[:len(l)]
}

// roomyPast is the same past, with room behind all its lists.
func roomyPast(p api.Past) api.Past {
	p.Base.Seats, p.Base.Routers, p.Events = roomy(p.Base.Seats), roomy(p.Base.Routers), roomy(p.Events)
	for i, r := range p.Base.Routers {
		p.Base.Routers[i].Routes, p.Base.Routers[i].Links = roomy(r.Routes), roomy(r.Links)
	}
	return p
}

// bare tells whether the room behind a list is as it was.
func bare[T any](l []T, none func(T) bool) bool {
	return !slices.ContainsFunc(l[:cap(l)][len(l):], func(x T) bool { return !none(x) })
}

// asItWas tells whether a past with room is a plain one still, the room behind it, too.
func asItWas(p, plain api.Past) bool {
	is := same(p, plain) && bare(p.Events, func(e api.Event) bool { return e == api.Event{} }) &&
		bare(p.Base.Seats, func(s api.Seat) bool { return s == api.Seat{} }) && bare(p.Base.Routers, func(r api.Router) bool { return sameRouter(r, api.Router{}) })
	for _, r := range p.Base.Routers {
		is = is && bare(r.Routes, func(x api.Route) bool { return x == api.Route{} }) && bare(r.Links, func(x api.Link) bool { return x == api.Link{} })
	}
	return is
}

// spoil turns all that a list has room for.
func spoil[T any](l []T, to T) {
	for i := range l[:cap(l)] {
		l[:cap(l)][i] = to
	}
}

func spoilNet(n api.Net) {
	for _, r := range n.Routers {
		spoil(r.Routes, api.Route{Prefix: api.Prefix{Len: -7}})
		spoil(r.Links, api.Link{Iface: -7, Peer: -77})
	}
	spoil(n.Seats, api.Seat{Router: -7})
	spoil(n.Routers, api.Router{Id: -7})
}

func spoilPast(p api.Past) {
	spoilNet(p.Base)
	spoil(p.Events, api.Event{Router: -7})
}

// sharesNothing holds that a call leaves a past as it was, and answers new memory: what is handed in and what is answered elsewhere are turned, and the answer stays.
func sharesNothing(t *testing.T, name string, plain api.Past, call func(api.Past) api.Past) {
	t.Helper()
	p := roomyPast(plain)
	q, other := call(p), call(p)
	if !asItWas(p, plain) {
		t.Fatalf("%s turned %v: %v", name, plain, p)
	}
	want := roomyPast(q)
	spoilPast(other)
	if !asItWas(p, plain) || !same(q, want) {
		t.Fatalf("%s: answers share memory, or one does with %v", name, plain)
	}
	spoilPast(p)
	if !same(q, want) {
		t.Fatalf("%s of %v shares memory: %v", name, plain, q)
	}
	for i, r := range q.Base.Routers { // and its lists with one another
		spoilNet(api.Net{Routers: []api.Router{r}})
		for k := range q.Base.Routers {
			if k > i && !sameRouter(q.Base.Routers[k], want.Base.Routers[k]) {
				t.Fatalf("%s of %v: routers %d and %d share memory", name, plain, i, k)
			}
		}
	}
}

func TestAnswersAreNewMemory(t *testing.T) {
	for _, p := range slices.Concat(rights(), wrongs()) {
		if len(p.Events) > 2000 || len(p.Base.Routers) > 100 {
			continue
		}
		sharesNothing(t, "Now", p, func(p api.Past) api.Past { n, _ := past.Now(p); return api.Past{Base: n} })
		for _, at := range []int64{-1, 0, 6, 7, 8, 9, 500} {
			sharesNothing(t, "At", p, func(p api.Past) api.Past { n, _ := past.At(p, at); return api.Past{Base: n} })
			sharesNothing(t, "Retain", p, func(p api.Past) api.Past { q, _ := past.Retain(p, at); return q })
		}
		for _, e := range []api.Event{{}, event(api.EventUp, 70, 1, 2000), event(api.EventUp, 70, 1, 2), event(api.EventLinkUp, 9, 4, 20), event(api.EventDown, 2, 6, 12)} {
			sharesNothing(t, "Take", p, func(p api.Past) api.Past { q, _ := past.Take(p, e); return q })
		}
	}
}

func TestTimesAreNewMemory(t *testing.T) {
	p := roomyPast(linked())
	w := api.Ivl{To: 20}
	l, _ := past.Times(p, w)
	other, _ := past.Times(p, w)
	spoil(other, -7)
	spoilPast(p)
	if !slices.Equal(l, []int64{5, 6, 8, 12}) {
		t.Errorf("Times shares memory: %v", l)
	}
}

func TestAskingTurnsNothing(t *testing.T) {
	for _, plain := range slices.Concat(rights(), wrongs()) {
		if len(plain.Events) > 2000 || len(plain.Base.Routers) > 100 {
			continue
		}
		p := roomyPast(plain)
		past.Check(p)
		past.Weight(p)
		past.Times(p, api.Ivl{From: 7, To: 20})
		if !asItWas(p, plain) {
			t.Fatalf("a call turned %v", plain)
		}
	}
}

// 21.5

func TestRightStaysRight(t *testing.T) {
	r := rand.New(rand.NewSource(215))
	for range 40 {
		p := past.Make()
		for _, e := range someEvents(r, 60) {
			switch r.Intn(12) {
			case 0:
				e.Seq++
			case 1:
				e = event(kinds[r.Intn(6)], e.Router, e.Seq, e.Time)
			case 2:
				p, _ = past.Retain(p, int64(r.Intn(20)-1))
			}
			q, why := takeAsPlain(t, p, e)
			if why == api.OK && past.Check(q) != api.OK {
				t.Fatalf("Take(%v, %v): %v is not right", p, e, q)
			}
			p = q
			if past.Check(p) != api.OK {
				t.Fatalf("%v is not right", p)
			}
		}
	}
	for _, p := range rights() {
		for _, at := range someTimes {
			if q, _ := past.Retain(p, at); past.Check(q) != api.OK {
				t.Fatalf("Retain(%v, %d): %v is not right", p, at, q)
			}
		}
	}
}

// 21.6

func TestAsItWas(t *testing.T) {
	r := rand.New(rand.NewSource(216))
	for range 60 {
		whole := somePast(t, r)
		cut := r.Intn(len(whole.Events) + 1)
		p, rest := whole, whole.Events[cut:]
		p.Events = p.Events[:cut]
		at := max(p.Horizon, 0) + int64(r.Intn(8))
		q, why := past.Retain(p, at)
		if why != api.OK {
			t.Fatalf("Retain(%v, %d): error %d", p, at, why)
		}
		sameFrom(t, p, q, at)
		for _, e := range slices.Concat(rest, []api.Event{event(api.EventUp, 70, 1, 99), event(api.EventUp, 3, 1, 99), event(api.EventAdd, 71, 1, 99)}) {
			a, no := past.Take(p, e)
			b, why := past.Take(q, e)
			if but := why == api.ErrTime || why == api.ErrFull; !but && why != no {
				t.Fatalf("Take of %v: error %d, retained %d", e, no, why)
			}
			if no == api.OK && why == api.OK {
				sameFrom(t, a, b, at)
			}
		}
	}
}

// sameFrom holds that two pasts have the same nets from a time on.
func sameFrom(t *testing.T, p, q api.Past, from int64) {
	t.Helper()
	for at := from; at < from+40; at++ {
		n, why := past.At(p, at)
		m, no := past.At(q, at)
		if !sameNet(n, m) || why != api.OK || no != api.OK {
			t.Fatalf("at %d: %v, error %d, and %v, error %d", at, n, why, m, no)
		}
	}
}

func TestRetainedTwiceIsRetainedOnce(t *testing.T) {
	r := rand.New(rand.NewSource(2162))
	for range 100 {
		p := somePast(t, r)
		first := max(p.Horizon, 0) + int64(r.Intn(6))
		last := first + int64(r.Intn(6))
		half, _ := past.Retain(p, first)
		q, why := past.Retain(half, last)
		once, no := past.Retain(p, last)
		if !same(q, once) || why != api.OK || no != api.OK {
			t.Fatalf("Retain(%v, %d, %d): %v, error %d, not %v, %d", p, first, last, q, why, once, no)
		}
	}
}

// 21.7

func TestBetweenTwoTimesTheNetStays(t *testing.T) {
	r := rand.New(rand.NewSource(217))
	for range 60 {
		p := somePast(t, r)
		w := api.Ivl{From: max(p.Horizon, 0), To: max(p.Horizon, 0) + 50}
		turns, why := past.Times(p, w)
		if why != api.OK {
			t.Fatalf("Times(%v, %v): error %d", p, w, why)
		}
		ahead, _ := past.At(p, w.From)
		for at := w.From + 1; at <= w.To; at++ {
			n, why := past.At(p, at)
			if is := slices.Contains(turns, at); why != api.OK || sameNet(n, ahead) == is {
				t.Fatalf("%v: at %d, of %v, %v behind %v", p, at, turns, n, ahead)
			}
			ahead = n
		}
		if now, _ := past.Now(p); len(turns) > 0 && w.To > 45 {
			if n, _ := past.At(p, api.MaxTime); !sameNet(n, now) {
				t.Fatalf("%v: in the end %v, not %v", p, n, now)
			}
		}
	}
}

// 21.8

func TestWhatIsTakenChangesNothingAheadOfIt(t *testing.T) {
	r := rand.New(rand.NewSource(218))
	for range 30 {
		p := past.Make()
		for _, e := range someEvents(r, 30) {
			q, why := past.Take(p, e)
			if why != api.OK {
				t.Fatalf("Take(%v, %v): error %d", p, e, why)
			}
			for at := range e.Time + 3 {
				n, _ := past.At(p, at)
				m, _ := past.At(q, at)
				if sameNet(n, m) != (at < e.Time) {
					t.Fatalf("Take(%v, %v): at %d %v, not %v", p, e, at, m, n)
				}
			}
			p = q
		}
	}
}

// P1, P3, P4

func FuzzAnyNumbers(f *testing.F) {
	f.Add(int64(7), 2, uint64(3), int64(7), true, true, uint8(2), 2, uint64(4), int64(8), int64(9), int64(7), int64(20))
	f.Add(int64(-1), 0, uint64(1), int64(0), true, false, uint8(1), 4, uint64(1), int64(0), int64(-1), int64(math.MinInt64), int64(math.MaxInt64))
	f.Add(int64(1<<40), 9, uint64(0), int64(-4), false, false, uint8(9), -4, uint64(0), int64(1<<41), int64(1<<40), int64(9), int64(8))
	f.Fuzz(func(t *testing.T, horizon int64, seat int, seq uint64, time int64, isUp, isThere bool, kind uint8, router int, next uint64, when, at, from, to int64) {
		e := event(api.EventKind(kind), router, next, when)
		base := api.Net{Seats: []api.Seat{{Router: seat, Seq: seq, Time: time, Up: isUp}}, Routers: []api.Router{{Id: seat, Up: isThere}}}
		for _, p := range []api.Past{{Horizon: horizon}, {Horizon: horizon, Base: base}, {Horizon: horizon, Base: base, Events: []api.Event{e}}, {Horizon: horizon, Events: []api.Event{e, e}}} {
			why := past.Check(p)
			if why != plainCheck(p) {
				t.Fatalf("Check(%v): error %d", p, why)
			}
			if why == api.OK {
				takeAsPlain(t, p, e)
			}
			past.Now(p)
			past.Weight(p)
			past.Times(p, api.Ivl{From: from, To: to})
			want := expired(p, at)
			if why != api.OK {
				want = why
			}
			if _, no := past.At(p, at); no != want {
				t.Fatalf("At(%v, %d): error %d, not %d", p, at, no, want)
			}
			if _, no := past.Retain(p, at); no != want {
				t.Fatalf("Retain(%v, %d): error %d, not %d", p, at, no, want)
			}
		}
	})
}

func TestAnswersHangOnArgumentsAlone(t *testing.T) {
	for _, plain := range rights() {
		p := plain
		if len(p.Base.Seats) == 0 {
			p.Base = api.Net{Seats: []api.Seat{}, Routers: make([]api.Router, 0, 9)}
		}
		if len(p.Events) == 0 {
			p.Events = make([]api.Event, 0, 9)
		}
		for _, o := range []api.Past{p, roomyPast(plain)} {
			a, why := past.Take(plain, event(api.EventUp, 70, 1, 2000))
			b, no := past.Take(o, event(api.EventUp, 70, 1, 2000))
			if !same(a, b) || why != no {
				t.Fatalf("Take turned: %v, error %d, not %v, %d", b, no, a, why)
			}
			a, why = past.Retain(plain, 9)
			b, no = past.Retain(o, 9)
			if !same(a, b) || why != no {
				t.Fatalf("Retain turned: %v, error %d, not %v, %d", b, no, a, why)
			}
			n, why := past.Now(plain)
			m, no := past.Now(o)
			if !sameNet(n, m) || why != no {
				t.Fatalf("Now turned: %v, error %d, not %v, %d", m, no, n, why)
			}
		}
	}
}

func TestNoGoroutineIsLeft(t *testing.T) {
	before := runtime.NumGoroutine()
	for _, p := range slices.Concat(rights(), wrongs()) {
		past.Check(p)
		past.Now(p)
		past.At(p, 9)
		past.Take(p, event(api.EventUp, 70, 1, 2000))
		past.Times(p, api.Ivl{From: 7, To: 20})
		past.Retain(p, 9)
		past.Weight(p)
	}
	if after := runtime.NumGoroutine(); after > before {
		t.Errorf("%d goroutines, and %d ahead of the calls", after, before)
	}
}
