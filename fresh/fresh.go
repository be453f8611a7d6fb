// Package fresh puts things that are answered as they were into memory of their own. It is no layer, but beside them, for those above disk, which calls api alone and does so for itself.
package fresh

import (
	"slices"
	"strings"

	"spoor/api"
)

// Disk answers the same disk, right or not, in new memory.
func Disk(d api.Disk) api.Disk {
	d.Sectors, d.Cache = slices.Clone(d.Sectors), slices.Clone(d.Cache)
	for i := range d.Sectors {
		d.Sectors[i] = strings.Clone(d.Sectors[i])
	}
	for i := range d.Cache {
		d.Cache[i].Data = strings.Clone(d.Cache[i].Data)
	}
	return d
}

// Router answers the same router, right or not, in new memory.
func Router(r api.Router) api.Router {
	r.Routes, r.Links = slices.Clone(r.Routes), slices.Clone(r.Links)
	return r
}

// Net answers the same net, right or not, in new memory.
func Net(n api.Net) api.Net {
	n.Seats, n.Routers = slices.Clone(n.Seats), slices.Clone(n.Routers)
	for i, r := range n.Routers {
		n.Routers[i] = Router(r)
	}
	return n
}

// Past answers the same past, right or not, in new memory.
func Past(p api.Past) api.Past {
	p.Base, p.Events = Net(p.Base), slices.Clone(p.Events)
	return p
}
