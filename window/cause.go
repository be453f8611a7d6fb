package window

import (
	"slices"

	"spoor/api"
	"spoor/net"
	"spoor/walk"
)

// begins tells whether an era begins at t.
func begins(eras []api.Era, t int64) bool {
	return slices.ContainsFunc(eras, func(e api.Era) bool { return e.Ivl.From == t })
}

// packet is one from a router to a right address, of IPv6, if six.
type packet struct {
	router int
	six    bool
	addr   api.Addr
}

// causes answers the places of those of a past's events at t whose router is on the packet's way in the net ahead, and has another hop in the net now. Only routers of events are asked, not the whole way, since asking costs as much as there is in a net.
func (x packet) causes(events []api.Event, t int64, ahead, now api.Net) []int {
	way, _, _ := walk.Walk(ahead, x.router, x.six, x.addr)
	var places []int
	for i, e := range events {
		if e.Time == t && slices.Contains(way, e.Router) && x.hop(ahead, e.Router) != x.hop(now, e.Router) {
			places = append(places, i)
		}
	}
	return places
}

// hop answers what becomes of the packet at a router of a right net.
func (x packet) hop(n api.Net, router int) api.Hop {
	h, _ := net.Hop(n, router, x.six, x.addr)
	return h
}
