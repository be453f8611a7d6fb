package walk

import (
	"cmp"
	"iter"
	"slices"

	"spoor/api"
	"spoor/net"
)

// verdicts are those of ways' last hops. A hop that leads on is the last one only where a packet comes to a router again.
var verdicts = [api.HopCount]api.VerdictKind{
	api.HopNone:    api.VerdictLost,
	api.HopTo:      api.VerdictLooping,
	api.HopDeliver: api.VerdictDelivered,
	api.HopDiscard: api.VerdictDiscarded,
}

// packet is one to a right address, of IPv6, if six, in a right net.
type packet struct {
	api.Net
	six  bool
	addr api.Addr
}

// way answers the packet's way from a router, and its verdict.
func (p packet) way(router int) ([]int, api.Verdict) {
	var way []int
	var v api.Verdict
	seen := map[int]struct{}{}
	for at, hop := range p.from(router) {
		way = append(way, at)
		v = api.Verdict{Kind: verdicts[hop.Kind], At: at}
		if _, is := seen[at]; is {
			break
		}
		seen[at] = struct{}{}
	}
	return way, v
}

// from tells the routers that the packet comes to, from one on, and what becomes of it at each: for ever, if it goes round.
func (p packet) from(router int) iter.Seq2[int, api.Hop] {
	return func(yield func(int, api.Hop) bool) {
		hop := p.hop(router)
		for yield(router, hop) && hop.Kind == api.HopTo {
			router = hop.Peer
			hop = p.hop(router)
		}
	}
}

// hop answers what becomes of the packet at a router. A net of that router alone is asked, since asking costs as much as there is in a net.
func (p packet) hop(router int) api.Hop {
	at, is := slices.BinarySearchFunc(p.Routers, router, func(r api.Router, id int) int { return cmp.Compare(r.Id, id) })
	if !is {
		return api.Hop{}
	}
	alone := api.Net{Seats: p.Seats[at : at+1], Routers: p.Routers[at : at+1]}
	hop, _ := net.Hop(alone, router, p.six, p.addr)
	return hop
}
