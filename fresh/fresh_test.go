package fresh_test

import (
	"reflect"
	"strings"
	"testing"
	"unsafe"

	"spoor/api"
	"spoor/fresh"
)

// disks are right ones and others: a copy asks for nothing.
func disks() []api.Disk {
	long := strings.Repeat("l", api.SectorSize)
	return []api.Disk{
		{},
		{Fuse: -7, Off: true},
		{Sectors: []string{long}, Fuse: -1},
		{Sectors: []string{"ab", "", long}, Cache: []api.Put{{At: -3, Data: "cd"}, {At: 9}, {At: 1, Data: long}}, Fuse: 5, Off: true},
	}
}

func TestACopyIsTheSame(t *testing.T) {
	for _, d := range disks() {
		if e := fresh.Disk(d); !reflect.DeepEqual(e, d) {
			t.Errorf("%v is copied as %v", d, e)
		}
	}
}

func TestACopySharesNothing(t *testing.T) {
	for i, d := range disks() {
		e := fresh.Disk(d)
		for k, s := range e.Sectors {
			if s != "" && unsafe.StringData(s) == unsafe.StringData(d.Sectors[k]) {
				t.Errorf("disk %d: the text of sector %d is shared", i, k)
			}
		}
		for k, p := range e.Cache {
			if p.Data != "" && unsafe.StringData(p.Data) == unsafe.StringData(d.Cache[k].Data) {
				t.Errorf("disk %d: the text of write %d is shared", i, k)
			}
		}
		clear(e.Sectors[:cap(e.Sectors)])
		clear(e.Cache[:cap(e.Cache)])
		if !reflect.DeepEqual(d, disks()[i]) {
			t.Errorf("disk %d shares a list with its copy", i)
		}
	}
}

// Room behind a list is the caller's: a copy reaches no further than the list.
func TestRoomBehindListsIsNotShared(t *testing.T) {
	d := api.Disk{Sectors: make([]string, 0, 4), Cache: make([]api.Put, 0, 4)}
	e := fresh.Disk(d)
	e.Sectors = append(e.Sectors, "z")
	e.Cache = append(e.Cache, api.Put{Data: "z"})
	if d.Sectors[:1][0] != "" || d.Cache[:1][0].Data != "" {
		t.Error("what is put behind a copy's lists is in the room of the other one's")
	}
}
