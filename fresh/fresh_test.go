package fresh_test

import (
	"reflect"
	"strings"
	"testing"
	"unsafe"

	"spoor/api"
	"spoor/fresh"
)

// disks are right ones and others: a copy asks for nothing.
func disks() []api.Disk {
	long := strings.Repeat("l", api.SectorSize)
	return []api.Disk{
		{},
		{Fuse: -7, Off: true},
		{Sectors: []string{long}, Fuse: -1},
		{Sectors: []string{"ab", "", long}, Cache: []api.Put{{At: -3, Data: "cd"}, {At: 9}, {At: 1, Data: long}}, Fuse: 5, Off: true},
	}
}

func TestACopyIsTheSame(t *testing.T) {
	for _, d := range disks() {
		if e := fresh.Disk(d); !reflect.DeepEqual(e, d) {
			t.Errorf("%v is copied as %v", d, e)
		}
	}
}

func TestACopySharesNothing(t *testing.T) {
	for i, d := range disks() {
		e := fresh.Disk(d)
		for k, s := range e.Sectors {
			if s != "" && unsafe.StringData(s) == unsafe.StringData(d.Sectors[k]) {
				t.Errorf("disk %d: the text of sector %d is shared", i, k)
			}
		}
		for k, p := range e.Cache {
			if p.Data != "" && unsafe.StringData(p.Data) == unsafe.StringData(d.Cache[k].Data) {
				t.Errorf("disk %d: the text of write %d is shared", i, k)
			}
		}
		clear(e.Sectors[:cap(e.Sectors)])
		clear(e.Cache[:cap(e.Cache)])
		if !reflect.DeepEqual(d, disks()[i]) {
			t.Errorf("disk %d shares a list with its copy", i)
		}
	}
}

// Room behind a list is the caller's: a copy reaches no further than the list.
func TestRoomBehindListsIsNotShared(t *testing.T) {
	d := api.Disk{Sectors: make([]string, 0, 4), Cache: make([]api.Put, 0, 4)}
	e := fresh.Disk(d)
	e.Sectors = append(e.Sectors, "z")
	e.Cache = append(e.Cache, api.Put{Data: "z"})
	if d.Sectors[:1][0] != "" || d.Cache[:1][0].Data != "" {
		t.Error("what is put behind a copy's lists is in the room of the other one's")
	}
}

// nets are right ones and others, all of whose lists have room behind them.
func nets() []api.Net {
	routes := append(make([]api.Route, 0, 9), api.Route{Prefix: api.Prefix{Len: 8}}, api.Route{Action: api.Action{Iface: -3}})
	links := append(make([]api.Link, 0, 9), api.Link{Iface: 3, Peer: 7}, api.Link{Peer: -1})
	return []api.Net{
		{},
		{Seats: make([]api.Seat, 0, 4), Routers: make([]api.Router, 0, 4)},
		{Seats: []api.Seat{{Router: 4, Seq: 3, Time: 7, Up: true}}},
		{Routers: []api.Router{{Id: -4, Up: true, Routes: routes}, {Id: 5, Links: links}, {Routes: routes[:0], Links: links[:0]}}},
		{Seats: []api.Seat{{Router: 4}, {}}, Routers: []api.Router{{Id: 4, Routes: routes, Links: links}, {Id: 4, Routes: routes[:1], Links: links[:1]}}},
	}
}

func TestACopyOfANetIsTheSame(t *testing.T) {
	for _, n := range nets() {
		if m := fresh.Net(n); !reflect.DeepEqual(m, n) {
			t.Errorf("%v is copied as %v", n, m)
		}
		for _, r := range n.Routers {
			if q := fresh.Router(r); !reflect.DeepEqual(q, r) {
				t.Errorf("%v is copied as %v", r, q)
			}
		}
	}
}

func spoilRouter(r api.Router) {
	for i := range r.Routes[:cap(r.Routes)] {
		r.Routes[:cap(r.Routes)][i].Action.Kind = 77
	}
	for i := range r.Links[:cap(r.Links)] {
		r.Links[:cap(r.Links)][i].Peer = 77
	}
}

func TestACopyOfANetSharesNothing(t *testing.T) {
	for i, n := range nets() {
		m := fresh.Net(n)
		for _, r := range m.Routers {
			spoilRouter(r)
		}
		for _, r := range n.Routers {
			spoilRouter(fresh.Router(r))
		}
		clear(m.Seats[:cap(m.Seats)])
		clear(m.Routers[:cap(m.Routers)])
		if !reflect.DeepEqual(n, nets()[i]) {
			t.Errorf("net %d shares a list with its copy", i)
		}
		for _, r := range n.Routers { // the room behind its lists, too
			for _, x := range r.Routes[len(r.Routes):cap(r.Routes)] {
				if x.Action.Kind == 77 {
					t.Errorf("net %d shares the room behind a list", i)
				}
			}
		}
		m = fresh.Net(n)
		if len(m.Routers) == 0 {
			continue
		}
		want := fresh.Net(m)
		spoilRouter(m.Routers[0])
		if !reflect.DeepEqual(m.Routers[1:], want.Routers[1:]) {
			t.Errorf("net %d: its copy's routers share a list", i)
		}
	}
}

// pasts are right ones and others, all of whose lists have room behind them.
func pasts() []api.Past {
	l := []api.Past{{}, {Horizon: -7, Events: make([]api.Event, 0, 4)}}
	for _, n := range nets() {
		events := append(make([]api.Event, 0, 9), api.Event{Kind: api.EventUp, Router: 4}, api.Event{Time: -3})
		l = append(l, api.Past{Base: n, Horizon: 9, Events: events})
	}
	return l
}

func TestACopyOfAPastIsTheSameAndSharesNothing(t *testing.T) {
	for i, p := range pasts() {
		q := fresh.Past(p)
		if !reflect.DeepEqual(q, p) {
			t.Errorf("%v is copied as %v", p, q)
		}
		for _, r := range q.Base.Routers {
			spoilRouter(r)
		}
		clear(q.Base.Seats[:cap(q.Base.Seats)])
		clear(q.Base.Routers[:cap(q.Base.Routers)])
		clear(q.Events[:cap(q.Events)])
		if !reflect.DeepEqual(p, pasts()[i]) {
			t.Errorf("past %d shares a list with its copy", i)
		}
		more := fresh.Past(p)
		more.Events = append(more.Events, api.Event{Kind: 77})
		if room := p.Events[:cap(p.Events)]; len(room) > len(p.Events) && room[len(p.Events)].Kind == 77 {
			t.Errorf("past %d shares the room behind its events", i)
		}
	}
}
