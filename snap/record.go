package snap

import (
	"iter"

	"spoor/api"
	"spoor/msg"
	"spoor/num"
)

// kind is a record's first byte, which tells what follows it.
type kind byte

// The kinds of records.
const (
	_ kind = iota // no record begins with 0
	ofHorizon
	ofSeat
	ofRoute
	ofLink
	ofEvent
	ofTime
)

// longest is how many bytes a record has at most: an event's body is the longest of what may follow the first one.
const longest = 1 + api.MaxBody

// The bytes that tell whether a seat is Up.
const (
	down = 0
	up   = 1
)

// record answers the record of a kind.
func (k kind) record(parts ...string) string {
	b := []byte{byte(k)}
	for _, s := range parts {
		b = append(b, s...)
	}
	return string(b)
}

// each tells the records of a right past, in order.
func each(p api.Past) iter.Seq[string] {
	return func(yield func(string) bool) {
		if !yield(ofHorizon.record(num.Put(num.Zig(p.Horizon)))) {
			return
		}
		for i, r := range p.Base.Routers {
			for s := range eachOf(p.Base.Seats[i], r) {
				if !yield(s) {
					return
				}
			}
		}
		for _, e := range p.Events {
			s, _ := Event(e)
			if !yield(s) {
				return
			}
		}
	}
}

// eachOf tells the records of a router and of its seat, which is ahead of what the router has.
func eachOf(s api.Seat, r api.Router) iter.Seq[string] {
	return func(yield func(string) bool) {
		if !yield(seatRecord(s)) {
			return
		}
		for _, x := range r.Routes {
			if !yield(routeRecord(x)) {
				return
			}
		}
		for _, x := range r.Links {
			if !yield(linkRecord(x)) {
				return
			}
		}
	}
}

func seatRecord(s api.Seat) string {
	mark := byte(down)
	if s.Up {
		mark = up
	}
	return ofSeat.record(num.Put(uint64(s.Router)), num.Put(s.Seq), num.Put(uint64(s.Time)), string([]byte{mark}))
}

func routeRecord(r api.Route) string {
	prefix, _ := msg.PutPrefix(r.Prefix)
	action, _ := msg.PutAction(r.Action)
	return ofRoute.record(prefix, action)
}

func linkRecord(l api.Link) string {
	return ofLink.record(num.Put(uint64(l.Iface)), num.Put(uint64(l.Peer)))
}
