// Package fresh puts things that are answered as they were into memory of their own. It is no layer, but beside them, for those above disk, which calls api alone and does so for itself.
package fresh

import (
	"slices"
	"strings"

	"spoor/api"
)

// Disk answers the same disk, right or not, in new memory.
func Disk(d api.Disk) api.Disk {
	d.Sectors, d.Cache = slices.Clone(d.Sectors), slices.Clone(d.Cache)
	for i := range d.Sectors {
		d.Sectors[i] = strings.Clone(d.Sectors[i])
	}
	for i := range d.Cache {
		d.Cache[i].Data = strings.Clone(d.Cache[i].Data)
	}
	return d
}
