package snap

import (
	"math"

	"spoor/api"
	"spoor/msg"
	"spoor/num"
	"spoor/past"
)

// draft is a past that is being read. Of what was read since it was retained last nothing was checked yet: that is done for all of it at once, since a check of a past has all its events happen anew.
type draft struct {
	api.Past
	begun bool // a record came
	based bool // all that came is of the Base
}

// take has a record come to the past, and tells whether it is one, and may come here. What it comes to may be wrong still.
func (d *draft) take(record string) bool {
	if record == "" || len(record) > longest {
		return false
	}
	k, t := kind(record[0]), tape{rest: record[1:]}
	if !d.may(k) {
		return false
	}
	d.begun, d.based = true, k < ofEvent
	d.read(k, &t)
	return t.done()
}

// may tells whether a record of that kind may come next.
func (d *draft) may(k kind) bool {
	switch k {
	case ofHorizon:
		return !d.begun
	case ofSeat:
		return d.based
	case ofRoute:
		return d.seated() && len(d.last().Links) == 0 // a router's routes stand ahead of its links
	case ofLink:
		return d.seated()
	case ofEvent, ofTime:
		return true
	}
	return false
}

// seated tells whether what comes may be of a router.
func (d *draft) seated() bool {
	return d.based && len(d.Base.Routers) > 0
}

// read has come what follows a record's first byte.
func (d *draft) read(k kind, t *tape) {
	switch k {
	case ofHorizon:
		d.Horizon = num.Zag(t.upTo(math.MaxUint64))
	case ofSeat:
		d.sit(t.seat())
	case ofRoute:
		r := d.last()
		r.Routes = append(r.Routes, t.route())
	case ofLink:
		r := d.last()
		r.Links = append(r.Links, t.link())
	case ofEvent:
		d.Events = append(d.Events, t.event())
	case ofTime:
		d.retain(t)
	}
}

// sit has a router come, which has nothing yet.
func (d *draft) sit(s api.Seat) {
	d.Base.Seats = append(d.Base.Seats, s)
	d.Base.Routers = append(d.Base.Routers, api.Router{Id: s.Router, Up: s.Up})
}

// last answers the router that came last.
func (d *draft) last() *api.Router {
	return &d.Base.Routers[len(d.Base.Routers)-1]
}

// retain has the past be retained to the time on a tape. That is refused, too, if anything that came ahead of it was wrong.
func (d *draft) retain(t *tape) {
	p, why := past.Retain(d.Past, int64(t.upTo(api.MaxTime)))
	if why != api.OK {
		t.bad = true
	}
	d.Past = p
}

// tape is bytes that are read from their beginning on: rest is what is left of them; bad, if they were not what was to be read.
type tape struct {
	rest string
	bad  bool
}

// done tells whether all was read, and nothing was bad.
func (t *tape) done() bool {
	return t.rest == "" && !t.bad
}

// part reads what get reads of bytes. Behind what is bad there is nothing left.
func part[T any](t *tape, get func(string) (T, string, api.Errno)) T {
	p, rest, why := get(t.rest)
	if why != api.OK {
		t.bad = true
	}
	t.rest = rest
	return p
}

// upTo reads a number that is most at most.
func (t *tape) upTo(most uint64) uint64 {
	n := part(t, num.Get)
	if n > most {
		*t = tape{bad: true}
		return 0
	}
	return n
}

func (t *tape) seat() api.Seat {
	var s api.Seat
	s.Router = int(t.upTo(api.MaxId))
	s.Seq = t.upTo(api.MaxSeq)
	s.Time = int64(t.upTo(api.MaxTime))
	s.Up = t.upTo(up) == up // these bytes are those of the numbers
	return s
}

func (t *tape) route() api.Route {
	var r api.Route
	r.Prefix = part(t, msg.GetPrefix)
	r.Action = part(t, msg.GetAction)
	return r
}

func (t *tape) link() api.Link {
	var l api.Link
	l.Iface = int(t.upTo(api.MaxIface))
	l.Peer = int(t.upTo(api.MaxId))
	return l
}

// event reads the body that is all of the tape.
func (t *tape) event() api.Event {
	e, why := msg.Get(t.rest)
	*t = tape{bad: why != api.OK}
	return e
}
