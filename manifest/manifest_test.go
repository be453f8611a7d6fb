package manifest_test

import (
	"encoding/binary"
	"hash/crc32"
	"math"
	"math/rand"
	"reflect"
	"runtime"
	"slices"
	"strings"
	"testing"
	"unsafe"

	"spoor/api"
	"spoor/disk"
	"spoor/manifest"
)

// The calls have the signatures of doc/06-manifest.md.
var (
	_ func(api.Manifest) api.Errno                       = manifest.Check
	_ func(api.Manifest) (string, api.Errno)             = manifest.Put
	_ func(string) (api.Manifest, api.Errno)             = manifest.Get
	_ func(api.Disk) (api.Manifest, api.Errno)           = manifest.Load
	_ func(api.Disk, api.Manifest) (api.Disk, api.Errno) = manifest.Save
)

func zeros(many int) string {
	return strings.Repeat("\x00", many)
}

// plainBody is the first bytes of a manifest's sector, up to the end of its parts, by the document's words; it does not ask whether the manifest is right.
func plainBody(m api.Manifest) string {
	b := binary.BigEndian.AppendUint64(nil, m.Epoch)
	b = append(b, byte(len(m.Parts)))
	for _, p := range m.Parts {
		b = append(b, byte(p.Seg))
		b = binary.BigEndian.AppendUint64(b, p.Tag)
		b = binary.BigEndian.AppendUint32(b, uint32(p.Many+1))
	}
	return string(b)
}

// sealed is a sector whose first bytes are body, with the sum that they have, and their epoch behind.
func sealed(body string) string {
	body += zeros(max(116-len(body), 0))
	sum := crc32.Checksum([]byte(body), crc32.MakeTable(crc32.Castagnoli))
	return body + string(binary.BigEndian.AppendUint32(nil, sum)) + body[:8]
}

func plainSector(m api.Manifest) string {
	return sealed(plainBody(m))
}

// turned is s with one byte turned.
func turned(s string, at int, by byte) string {
	b := []byte(s)
	b[at] ^= by
	return string(b)
}

func sameManifest(a, b api.Manifest) bool {
	return a.Epoch == b.Epoch && slices.Equal(a.Parts, b.Parts)
}

func noManifest(m api.Manifest) bool {
	return m.Epoch == 0 && len(m.Parts) == 0
}

func sameDisk(a, b api.Disk) bool {
	return slices.Equal(a.Sectors, b.Sectors) && slices.Equal(a.Cache, b.Cache) && a.Fuse == b.Fuse && a.Off == b.Off
}

func noDisk(d api.Disk) bool {
	return len(d.Sectors)+len(d.Cache) == 0 && d.Fuse == 0 && !d.Off
}

// of is a manifest of an epoch, and of parts whose numbers are a segment, a tag and a many each.
func of(epoch uint64, parts ...[3]int) api.Manifest {
	m := api.Manifest{Epoch: epoch}
	for _, p := range parts {
		m.Parts = append(m.Parts, api.Part{Seg: p[0], Tag: uint64(p[1]), Many: p[2]})
	}
	return m
}

// full has as many parts as may be, the last one open.
func full(epoch uint64) api.Manifest {
	return of(epoch, [3]int{7, 1, 0}, [3]int{0, 2, 1}, [3]int{6, 255, 255}, [3]int{1, 256, 256}, [3]int{5, 1 << 32, 65535},
		[3]int{2, 0x0102030405060708, 0x010203}, [3]int{4, api.MaxTag - 1, api.MaxMany}, [3]int{3, api.MaxTag, -1})
}

// rights are right manifests of all sorts.
func rights() []api.Manifest {
	closed := full(9)
	closed.Parts[7].Many = api.MaxMany
	l := []api.Manifest{of(1), {Epoch: 1, Parts: []api.Part{}}, closed}
	for _, epoch := range []uint64{1, 2, 255, 256, 65535, 1 << 45, 0x0102030405060708, api.MaxTag - 1, api.MaxTag} {
		l = append(l, of(epoch), of(epoch, [3]int{3, 1, -1}), of(epoch, [3]int{2, 5, 3}, [3]int{0, 9, -1}), full(epoch))
	}
	for seg := range api.MaxSegs {
		l = append(l, of(3, [3]int{seg, api.MaxTag, 0}), of(3, [3]int{seg, 1, api.MaxMany}))
	}
	return l
}

// wrongs are not right, each for one reason; of those named in the second list a sector can be made that tells them.
func wrongs() (all map[string]api.Manifest, told []string) {
	many, twice := full(9), full(9)
	many.Parts[7].Many = 1
	many.Parts = append(many.Parts, many.Parts[7])
	twice.Parts[7].Seg = 7
	all = map[string]api.Manifest{
		"zero":                  {},
		"epoch 0":               of(0, [3]int{1, 1, 1}),
		"an epoch too great":    of(api.MaxTag+1, [3]int{1, 1, 1}),
		"the greatest epoch":    of(math.MaxUint64),
		"a part too many":       many,
		"the last one's twice":  twice,
		"a segment twice":       of(9, [3]int{4, 1, 1}, [3]int{4, 2, 1}),
		"a segment again":       of(9, [3]int{4, 1, 1}, [3]int{5, 2, 1}, [3]int{4, 3, -1}),
		"segment -1":            of(9, [3]int{-1, 1, 1}),
		"the least segment":     of(9, [3]int{math.MinInt, 1, 1}),
		"segment 8":             of(9, [3]int{8, 1, 1}),
		"segment 255":           of(9, [3]int{0, 1, 1}, [3]int{255, 2, 1}),
		"segment 256":           of(9, [3]int{256, 1, 1}),
		"the greatest segment":  of(9, [3]int{math.MaxInt, 1, 1}),
		"tag 0":                 of(9, [3]int{1, 0, 1}),
		"tag 0 behind":          of(9, [3]int{1, 1, 1}, [3]int{2, 0, 1}),
		"a tag too great":       of(9, [3]int{1, 1, 1}, [3]int{2, api.MaxTag + 1, 1}),
		"the greatest tag":      {Epoch: 9, Parts: []api.Part{{Seg: 1, Tag: math.MaxUint64, Many: 1}}},
		"a tag twice":           of(9, [3]int{1, 5, 1}, [3]int{2, 5, 1}),
		"a tag that falls":      of(9, [3]int{1, 5, 1}, [3]int{2, 4, 1}),
		"one that falls later":  of(9, [3]int{1, 5, 1}, [3]int{2, 7, 1}, [3]int{3, 6, -1}),
		"many too great":        of(9, [3]int{1, 1, api.MaxMany + 1}),
		"many too great, first": of(9, [3]int{1, 1, api.MaxMany + 1}, [3]int{2, 2, 1}),
		"the greatest of four":  of(9, [3]int{1, 1, math.MaxUint32 - 1}),
		"half of four":          of(9, [3]int{1, 1, math.MaxInt32}),
		"more than four":        of(9, [3]int{1, 1, 1<<32 + 1}),
		"the greatest many":     of(9, [3]int{1, 1, math.MaxInt}),
		"many -2":               of(9, [3]int{1, 1, -2}),
		"the least many":        of(9, [3]int{1, 1, math.MinInt}),
		"open, the first":       of(9, [3]int{1, 1, -1}, [3]int{2, 2, 1}),
		"open, amid":            of(9, [3]int{1, 1, 1}, [3]int{2, 2, -1}, [3]int{3, 3, -1}),
	}
	for name, m := range all {
		as := of(m.Epoch)
		for _, p := range m.Parts {
			as.Parts = append(as.Parts, api.Part{Seg: int(byte(p.Seg)), Tag: p.Tag, Many: int(uint32(p.Many+1)) - 1})
		}
		if m.Epoch != 0 && len(m.Parts) <= api.MaxSegs && sameManifest(m, as) {
			told = append(told, name)
		}
	}
	return all, told
}

// 6.1

func TestCheckOfRightManifests(t *testing.T) {
	for _, m := range rights() {
		if why := manifest.Check(m); why != api.OK {
			t.Errorf("Check(%v): error %d", m, why)
		}
	}
}

func TestWrongManifestsAreRefused(t *testing.T) {
	all, _ := wrongs()
	for name, m := range all {
		if why := manifest.Check(m); why != api.ErrForm {
			t.Errorf("%s: Check: error %d", name, why)
		}
		if s, why := manifest.Put(m); s != "" || why != api.ErrForm {
			t.Errorf("%s: Put: %x, error %d", name, s, why)
		}
	}
}

func TestPutIsTheSector(t *testing.T) {
	by := "\x00\x00\x00\x00\x00\x00\x00\x01" + "\x02" +
		"\x02" + "\x00\x00\x00\x00\x00\x00\x00\x05" + "\x00\x00\x00\x04" +
		"\x00" + "\x00\x00\x00\x00\x00\x00\x00\x09" + "\x00\x00\x00\x00" + zeros(81)
	if s, why := manifest.Put(of(1, [3]int{2, 5, 3}, [3]int{0, 9, -1})); len(s) != 128 || s[:116] != by || s[120:] != by[:8] || why != api.OK {
		t.Errorf("Put: %x, error %d", s, why)
	}
	for _, m := range rights() {
		if s, why := manifest.Put(m); s != plainSector(m) || len(s) != api.SectorSize || why != api.OK {
			t.Errorf("Put(%v): %x, error %d", m, s, why)
		}
	}
}

func TestGetIsTheManifest(t *testing.T) {
	for _, m := range rights() {
		if got, why := manifest.Get(plainSector(m)); !sameManifest(got, m) || why != api.OK {
			t.Errorf("Get of %v: %v, error %d", m, got, why)
		}
	}
}

func refused(t *testing.T, say, s string, want api.Errno) {
	t.Helper()
	if m, why := manifest.Get(s); !noManifest(m) || why != want {
		t.Errorf("%s: %v, error %d, not %d", say, m, why, want)
	}
}

func TestOtherLengthsAreTooLong(t *testing.T) {
	s := plainSector(full(9))
	for _, many := range []int{0, 1, 7, 8, 16, 116, 120, 127, 129, 136, 256, 1000} {
		refused(t, "a manifest's bytes", strings.Repeat(s, 8)[:many], api.ErrLong)
		refused(t, "zero bytes", zeros(many), api.ErrLong)
	}
}

// Ends that are unlike, or zero, are told of ahead of a sum that is another one, and of what is no code.
func TestUnlikeEndsAreNoManifest(t *testing.T) {
	for _, m := range rights() {
		s := plainSector(m)
		for at := range api.SectorSize {
			if at >= 8 && at < 120 {
				continue
			}
			for _, by := range []byte{1, 0x80, 0xff} {
				refused(t, "an end turned", turned(s, at, by), api.ErrNone)
				refused(t, "an end and a part turned", turned(turned(s, at, by), 8, 0xf0), api.ErrNone)
			}
		}
	}
	refused(t, "zero bytes", zeros(128), api.ErrNone)
	refused(t, "zero bytes, and their sum", sealed(zeros(116)), api.ErrNone)
	refused(t, "epoch 0", plainSector(of(0, [3]int{1, 1, 1})), api.ErrNone)
	refused(t, "an end that its sum is of", sealed(plainBody(of(9)))[:120]+sealed(plainBody(of(8)))[120:], api.ErrNone)
}

func TestATurnedByteIsAnotherSum(t *testing.T) {
	for _, m := range []api.Manifest{of(1), full(9), of(api.MaxTag, [3]int{2, 5, 3})} {
		s := plainSector(m)
		for at := 8; at < 120; at++ {
			for _, by := range []byte{1, 0x10, 0x80, 0xff} {
				refused(t, "a byte turned", turned(s, at, by), api.ErrSum)
			}
		}
		for at := range 8 {
			refused(t, "both ends turned", turned(turned(s, at, 0x23), at+120, 0x23), api.ErrSum)
		}
		refused(t, "the sum's bytes, the lowest first", s[:116]+string([]byte{s[119], s[118], s[117], s[116]})+s[120:], api.ErrSum)
	}
	bad := plainSector(of(9, [3]int{8, 1, 1}))
	refused(t, "a wrong part, and another sum", turned(bad, 117, 1), api.ErrSum)
}

func TestSectorsOfNoRightManifest(t *testing.T) {
	all, told := wrongs()
	if len(told) < 15 {
		t.Errorf("there are sectors of only %d wrong manifests", len(told))
	}
	for _, name := range told {
		refused(t, name, plainSector(all[name]), api.ErrCode)
	}
	for many := 9; many < 256; many++ {
		refused(t, "more parts than may be", sealed(plainBody(of(9))[:8]+string([]byte{byte(many)})), api.ErrCode)
		refused(t, "more parts than may be, eight of them right", sealed(plainBody(full(9))[:8]+string([]byte{byte(many)})+plainBody(full(9))[9:]), api.ErrCode)
	}
	for _, m := range rights() {
		body := plainBody(m)
		for at := len(body); at < 116; at++ {
			for _, by := range []byte{1, 0xff} {
				refused(t, "a byte behind the parts", sealed(turned(body+zeros(116-len(body)), at, by)), api.ErrCode)
			}
		}
	}
	refused(t, "a part fewer than there are", sealed(turned(plainBody(of(9, [3]int{1, 1, 1})), 8, 1)), api.ErrCode)
	refused(t, "a part more than there are", sealed(turned(plainBody(of(9)), 8, 1)), api.ErrCode)
}

// 6.2

// diskOf is a disk of those first sectors, and of one more.
func diskOf(sectors ...string) api.Disk {
	return api.Disk{Sectors: append(sectors, strings.Repeat("z", api.SectorSize)), Fuse: -1}
}

func withCache(d api.Disk, puts ...api.Put) api.Disk {
	d.Cache = puts
	return d
}

func withFuse(d api.Disk, fuse int) api.Disk {
	d.Fuse = fuse
	return d
}

func off(d api.Disk) api.Disk {
	d.Off = true
	return d
}

// wrongDisks are not right.
func wrongDisks() []api.Disk {
	s := plainSector(of(1))
	return []api.Disk{
		{}, {Fuse: -1}, diskOf(s, s[1:]), diskOf(s+"z", s), withFuse(diskOf(s, s), -2), withCache(diskOf(s, s), api.Put{At: 3, Data: s}),
		withCache(diskOf(s, s), api.Put{At: 0, Data: s[1:]}), {Sectors: slices.Repeat([]string{s}, api.MaxSectors+1), Fuse: -1},
	}
}

func TestLoadIsTheOneOfTheGreaterEpoch(t *testing.T) {
	empty, bad := zeros(128), turned(plainSector(full(99)), 50, 1)
	one, two, big := of(6, [3]int{1, 1, 1}), full(7), of(api.MaxTag, [3]int{3, 1, -1})
	other := of(6, [3]int{2, 2, 2})
	in := plainSector
	for _, c := range []struct {
		say  string
		d    api.Disk
		want api.Manifest
	}{
		{"in the first", diskOf(in(one), empty), one},
		{"in the second", diskOf(empty, in(one)), one},
		{"the second is bad", diskOf(in(one), bad), one},
		{"the first is bad", diskOf(bad, in(one)), one},
		{"the second's is greater", diskOf(in(one), in(two)), two},
		{"the first's is greater", diskOf(in(two), in(one)), two},
		{"the greatest", diskOf(in(two), in(big)), big},
		{"both alike", diskOf(in(one), in(other)), one},
		{"both alike, the other way", diskOf(in(other), in(one)), other},
		{"no parts, greater", diskOf(in(of(8)), in(two)), of(8)},
		{"two sectors alone", api.Disk{Sectors: []string{in(one), in(two)}, Fuse: -1}, two},
		{"written, not flushed", withCache(diskOf(in(one), empty), api.Put{At: 1, Data: in(two)}), two},
		{"written twice", withCache(diskOf(in(one), empty), api.Put{At: 1, Data: in(two)}, api.Put{At: 1, Data: bad}), one},
		{"written over", withCache(diskOf(in(two), in(one)), api.Put{At: 0, Data: empty}), one},
		{"with a fuse of 0", withFuse(diskOf(in(one), in(two)), 0), two},
		{"one more behind", diskOf(in(one), empty, in(two)), one},
	} {
		if m, why := manifest.Load(c.d); !sameManifest(m, c.want) || why != api.OK {
			t.Errorf("%s: %v, error %d", c.say, m, why)
		}
	}
}

func TestLoadRefuses(t *testing.T) {
	s, empty := plainSector(of(1)), zeros(128)
	single := api.Disk{Sectors: []string{s}, Fuse: -1}
	for _, d := range wrongDisks() {
		for _, d := range []api.Disk{d, off(d)} {
			if m, why := manifest.Load(d); !noManifest(m) || why != api.ErrForm {
				t.Errorf("a disk that is not right: %v, error %d", m, why)
			}
		}
	}
	for _, c := range []struct {
		say string
		d   api.Disk
		why api.Errno
	}{
		{"off", off(diskOf(s, s)), api.ErrPower},
		{"off, of one sector", off(single), api.ErrPower},
		{"off, none there", off(diskOf(empty, empty)), api.ErrPower},
		{"one sector", single, api.ErrRange},
		{"one sector, none there", api.Disk{Sectors: []string{empty}, Fuse: -1}, api.ErrRange},
		{"none there", diskOf(empty, empty), api.ErrNone},
		{"one behind the first two", diskOf(empty, empty, s), api.ErrNone},
		{"both bad", diskOf(turned(s, 0, 1), turned(s, 60, 1)), api.ErrNone},
		{"no right one's", diskOf(plainSector(of(1, [3]int{9, 1, 1})), s[:60]+zeros(68)), api.ErrNone},
		{"written over", withCache(diskOf(s, empty), api.Put{At: 0, Data: empty}), api.ErrNone},
	} {
		if m, why := manifest.Load(c.d); !noManifest(m) || why != c.why {
			t.Errorf("%s: %v, error %d, not %d", c.say, m, why, c.why)
		}
	}
}

func TestSaveWritesInTurnAndFlushes(t *testing.T) {
	d, _ := disk.Make(3)
	for epoch := uint64(1); epoch <= 40; epoch++ {
		m := full(epoch)
		m.Parts = m.Parts[epoch%8:]
		want := api.Disk{Sectors: slices.Clone(d.Sectors), Fuse: -1}
		want.Sectors[epoch%2] = plainSector(m)
		e, why := manifest.Save(d, m)
		if !sameDisk(e, want) || why != api.OK {
			t.Fatalf("epoch %d: error %d", epoch, why)
		}
		d = e
	}
}

// Where the elder one lies does not matter, only its epoch; what else is in the cache is flushed, too.
func TestSaveByHand(t *testing.T) {
	empty, in, m := zeros(128), plainSector, of(7, [3]int{1, 1, 1})
	other := strings.Repeat("o", api.SectorSize)
	put := func(at int, data string) api.Put { return api.Put{At: at, Data: data} }
	for _, c := range []struct {
		say     string
		d, want api.Disk
		m       api.Manifest
	}{
		{"the elder one in the first", diskOf(in(of(6)), in(of(5))), diskOf(in(of(6)), in(m)), m},
		{"the elder one in the second", diskOf(empty, in(of(6))), diskOf(empty, in(m)), m},
		{"even", diskOf(in(of(7)), empty), diskOf(in(full(8)), empty), full(8)},
		{"none, both bad", diskOf(other, other), diskOf(other, in(full(1))), full(1)},
		{"the greatest", diskOf(empty, in(of(api.MaxTag-1))), diskOf(in(full(api.MaxTag)), in(of(api.MaxTag-1))), full(api.MaxTag)},
		{"the elder one in the cache", withCache(diskOf(empty, empty), put(0, in(of(6)))), diskOf(in(of(6)), in(m)), m},
		{"another write in the cache", withCache(diskOf(in(of(6)), empty), put(2, other), put(1, other)), api.Disk{Sectors: []string{in(of(6)), in(m), other}, Fuse: -1}, m},
		{"a fuse of 2", withFuse(diskOf(in(of(6)), empty), 2), withFuse(diskOf(in(of(6)), in(m)), 0), m},
		{"a fuse of 9", withFuse(diskOf(in(of(6)), empty), 9), withFuse(diskOf(in(of(6)), in(m)), 7), m},
	} {
		if e, why := manifest.Save(c.d, c.m); !sameDisk(e, c.want) || why != api.OK {
			t.Errorf("%s: error %d, and %v", c.say, why, e)
		}
	}
}

func TestSaveWhosePowerGoes(t *testing.T) {
	d := withCache(diskOf(plainSector(of(6)), zeros(128)), api.Put{At: 2, Data: zeros(128)})
	m := full(7)
	behind := withCache(d, d.Cache[0], api.Put{At: 1, Data: plainSector(m)})
	for fuse := range 2 {
		if e, why := manifest.Save(withFuse(d, fuse), m); !sameDisk(e, off(withFuse(behind, 0))) || why != api.ErrPower {
			t.Errorf("a fuse of %d: error %d, and %v", fuse, why, e)
		}
	}
}

func TestSaveRefuses(t *testing.T) {
	in, empty, m := plainSector, zeros(128), full(7)
	d := withCache(diskOf(in(of(6)), in(of(5))), api.Put{At: 2, Data: empty})
	crowded := withCache(d, slices.Repeat([]api.Put{{At: 2, Data: empty}}, api.MaxCache)...)
	single := withCache(api.Disk{Sectors: []string{empty}, Fuse: 3}, api.Put{At: 0, Data: in(of(6))})
	greatest := diskOf(in(of(api.MaxTag)), empty)
	type call struct {
		say string
		d   api.Disk
		m   api.Manifest
		why api.Errno
	}
	l := []call{
		{"off", off(d), m, api.ErrPower},
		{"off, with a fuse", off(withFuse(d, 5)), m, api.ErrPower},
		{"off, of another epoch", off(d), full(9), api.ErrPower},
		{"off, of one sector", off(single), m, api.ErrPower},
		{"off, and full", off(crowded), m, api.ErrPower},
		{"one sector", single, m, api.ErrRange},
		{"one sector, the first epoch", single, of(1), api.ErrRange},
		{"the same epoch", d, full(6), api.ErrRange},
		{"the elder epoch", d, full(5), api.ErrRange},
		{"the first epoch", d, full(1), api.ErrRange},
		{"an epoch too far", d, full(8), api.ErrRange},
		{"the greatest epoch", d, full(api.MaxTag), api.ErrRange},
		{"another epoch, a fuse of 0", withFuse(d, 0), full(8), api.ErrRange},
		{"another epoch, full", crowded, full(8), api.ErrRange},
		{"none there, the second epoch", diskOf(empty, empty), full(2), api.ErrRange},
		{"the greatest again", greatest, full(api.MaxTag), api.ErrRange},
		{"behind the greatest", greatest, full(api.MaxTag + 1), api.ErrForm},
		{"behind the greatest, from the first on", greatest, of(1), api.ErrRange},
		{"full", crowded, m, api.ErrFull},
		{"full, a fuse of 0", withFuse(crowded, 0), m, api.ErrFull},
	}
	all, _ := wrongs()
	for name, bad := range all {
		l = append(l, call{name, d, bad, api.ErrForm}, call{name + ", off", off(d), bad, api.ErrForm}, call{name + ", one sector", single, bad, api.ErrForm})
	}
	for _, c := range l {
		if e, why := manifest.Save(c.d, c.m); !sameDisk(e, c.d) || why != c.why {
			t.Errorf("%s: error %d, not %d; as it was: %v", c.say, why, c.why, sameDisk(e, c.d))
		}
	}
}

// A disk that is not right is told of first, with nothing beside it.
func TestSaveToADiskThatIsNotRight(t *testing.T) {
	for _, d := range wrongDisks() {
		for _, d := range []api.Disk{d, off(d)} {
			for _, m := range []api.Manifest{of(1), of(2), {}} {
				if e, why := manifest.Save(d, m); !noDisk(e) || why != api.ErrForm {
					t.Errorf("error %d, and %v", why, e)
				}
			}
		}
	}
}

// 6.3

// texts are all texts of a disk.
func texts(d api.Disk) []string {
	l := slices.Clone(d.Sectors)
	for _, p := range d.Cache {
		l = append(l, p.Data)
	}
	return l
}

// saves are the answers of all sorts of saves to a disk whose manifest has the Epoch 6.
func saves(d api.Disk, m api.Manifest) []api.Disk {
	var l []api.Disk
	for _, d := range []api.Disk{d, withFuse(d, 0), withFuse(d, 1), off(d)} {
		for _, m := range []api.Manifest{m, of(9), {}} {
			e, _ := manifest.Save(d, m)
			l = append(l, e)
		}
	}
	return l
}

func TestDisksAreNewMemory(t *testing.T) {
	d := withCache(diskOf(plainSector(of(6)), plainSector(of(5))), api.Put{At: 2, Data: zeros(128)})
	was := withCache(diskOf(plainSector(of(6)), plainSector(of(5))), api.Put{At: 2, Data: zeros(128)})
	m := full(7)
	told := append(saves(d, m), saves(d, m)...)
	again := saves(was, full(7))
	at := map[*byte]int{}
	for i, e := range append(slices.Clone(told), d) {
		for _, s := range texts(e) {
			if by, is := at[unsafe.StringData(s)]; is {
				t.Fatalf("answers %d and %d share a text", by, i)
			}
			at[unsafe.StringData(s)] = i
		}
	}
	for i, e := range told {
		clear(e.Sectors[:cap(e.Sectors)])
		clear(e.Cache[:cap(e.Cache)])
		if !sameDisk(d, was) || !sameManifest(m, full(7)) {
			t.Fatalf("answer %d shares memory with an argument", i)
		}
		for k, later := range told[i+1:] {
			if !sameDisk(later, again[(i+1+k)%len(again)]) {
				t.Fatalf("answer %d shares memory with another one", i)
			}
		}
	}
}

func TestManifestsAreNewMemory(t *testing.T) {
	s := plainSector(full(9))
	d := diskOf(s, zeros(128))
	var told []api.Manifest
	for range 2 {
		a, _ := manifest.Get(s)
		b, _ := manifest.Load(d)
		told = append(told, a, b)
	}
	for i, m := range told {
		clear(m.Parts[:cap(m.Parts)])
		for _, later := range told[i+1:] {
			if !sameManifest(later, full(9)) {
				t.Fatalf("answer %d shares memory with another one", i)
			}
		}
	}
	m := full(9)
	a, _ := manifest.Put(m)
	b, _ := manifest.Put(m)
	if unsafe.StringData(a) == unsafe.StringData(b) || !sameManifest(m, full(9)) {
		t.Error("two answers of Put share memory, or have changed what was handed in")
	}
}

// What is put behind a manifest's parts, in the room that they have, is nobody's but the caller's.
func TestRoomBehindIsLeftAlone(t *testing.T) {
	m := of(7, [3]int{1, 1, 1})
	m.Parts = append(make([]api.Part, 0, 5), m.Parts...)
	d := diskOf(plainSector(of(6)), zeros(128))
	d.Cache = make([]api.Put, 0, 5)
	manifest.Put(m)
	manifest.Save(d, m)
	if !reflect.DeepEqual(m.Parts[:5][1:], make([]api.Part, 4)) || !reflect.DeepEqual(d.Cache[:5], make([]api.Put, 5)) {
		t.Errorf("behind them there is %v and %v", m.Parts[:5], d.Cache[:5])
	}
}

// 6.4, 6.5

func TestExample(t *testing.T) {
	d, _ := disk.Make(2)
	if m, why := manifest.Load(d); !noManifest(m) || why != api.ErrNone {
		t.Errorf("nothing saved: %v, error %d", m, why)
	}
	for epoch := uint64(1); epoch <= 2; epoch++ {
		d, _ = manifest.Save(d, of(epoch))
	}
	if !slices.Equal(d.Sectors, []string{plainSector(of(2)), plainSector(of(1))}) {
		t.Errorf("the sectors are %x", d.Sectors)
	}
}

// someManifest is a right one of an epoch.
func someManifest(r *rand.Rand, epoch uint64) api.Manifest {
	m := api.Manifest{Epoch: epoch}
	tag := uint64(0)
	for i, seg := range r.Perm(api.MaxSegs)[:r.Intn(api.MaxSegs+1)] {
		tag += 1 + r.Uint64()>>uint(5+r.Intn(58))
		m.Parts = append(m.Parts, api.Part{Seg: seg, Tag: tag, Many: r.Intn(api.MaxMany+1) >> r.Intn(21)})
		if r.Intn(3) == 0 {
			m.Parts[i].Many = 0
		}
	}
	if last := len(m.Parts) - 1; last >= 0 && r.Intn(2) == 0 {
		m.Parts[last].Many = -1
	}
	return m
}

func TestThereAndBack(t *testing.T) {
	r := rand.New(rand.NewSource(64))
	for range 5000 {
		m := someManifest(r, 1+r.Uint64()%api.MaxTag)
		s, why := manifest.Put(m)
		if s != plainSector(m) || why != api.OK {
			t.Fatalf("Put(%v): %x, error %d", m, s, why)
		}
		if got, why := manifest.Get(s); !sameManifest(got, m) || why != api.OK {
			t.Fatalf("%v is read as %v, error %d", m, got, why)
		}
	}
}

// loaded tells which of two manifests a disk has; one of Epoch 0 is none.
func loaded(t *testing.T, d api.Disk, last, next api.Manifest) api.Manifest {
	t.Helper()
	m, why := manifest.Load(d)
	if why == api.ErrNone && last.Epoch == 0 {
		return m
	}
	if why != api.OK || !sameManifest(m, last) && !sameManifest(m, next) {
		t.Fatalf("loaded is %v, error %d: it was %v, and %v was being saved", m, why, last, next)
	}
	return m
}

// Each save is cut off at its write, and at its flush, the write torn behind each byte; then saved anew, and cut off, and torn anywhere again.
func TestTornAnywhere(t *testing.T) {
	r := rand.New(rand.NewSource(65))
	for _, epoch := range []uint64{1, 2, 3, 255, 256, 257, 258, 65535, 65536, 65537, 1 << 40, 1<<56 + 1, api.MaxTag - 1, api.MaxTag} {
		d, _ := disk.Make(2)
		var last api.Manifest
		for e := epoch - min(2, epoch-1); e < epoch; e++ {
			last = someManifest(r, e)
			d.Sectors[e%2] = plainSector(last)
		}
		for fuse := range 2 {
			for cut := range api.SectorSize + 1 {
				next, again := someManifest(r, epoch), someManifest(r, epoch)
				e, why := manifest.Save(withFuse(d, fuse), next)
				if why != api.ErrPower {
					t.Fatalf("Save: error %d", why)
				}
				e, _ = disk.Crash(e, nil, 0, cut)
				if now := loaded(t, e, last, next); now.Epoch == epoch {
					continue
				}
				for _, part := range []int{0, 1, 7, 8, 9, 60, 116, 119, 120, 121, 127, 128} {
					f, _ := manifest.Save(withFuse(e, fuse), again)
					f, _ = disk.Crash(f, nil, 0, part)
					loaded(t, f, last, again)
				}
				f, why := manifest.Save(e, again)
				if now := loaded(t, f, again, again); why != api.OK || now.Epoch != epoch {
					t.Fatalf("epoch %d, torn at %d: saved anew there is %d, error %d", epoch, cut, now.Epoch, why)
				}
			}
		}
	}
}

func TestPlayed(t *testing.T) {
	for seed := range 300 {
		r := rand.New(rand.NewSource(int64(seed)))
		d, _ := disk.Make(2 + r.Intn(3))
		var last api.Manifest
		for range 60 {
			next := someManifest(r, last.Epoch+1)
			d.Fuse = r.Intn(5) - 1
			e, why := manifest.Save(d, next)
			switch {
			case why == api.OK:
				last = next
			case why != api.ErrPower || !e.Off:
				t.Fatalf("seed %d: Save: error %d", seed, why)
			default:
				if m, why := manifest.Load(e); !noManifest(m) || why != api.ErrPower {
					t.Fatalf("seed %d: loaded without power: %v, error %d", seed, m, why)
				}
			}
			if e.Off || r.Intn(4) == 0 {
				e, _ = disk.Crash(e, []bool{r.Intn(2) == 0}, r.Intn(3)-1, r.Intn(140)-5)
			}
			last = loaded(t, e, last, next)
			d = e
		}
	}
}

// P1, P3, P4

func FuzzAnySector(f *testing.F) {
	f.Add(plainSector(full(9)), plainSector(of(8)), -1, false)
	f.Add(zeros(128), sealed(zeros(116)), 0, false)
	f.Add(plainSector(of(9, [3]int{8, 1, 1})), "", 1, true)
	f.Fuzz(func(t *testing.T, s, o string, fuse int, off bool) {
		m, why := manifest.Get(s)
		if again, no := manifest.Put(m); why == api.OK && (again != s || no != api.OK) || why != api.OK && !noManifest(m) {
			t.Fatalf("Get(%x): %v, errors %d and %d", s, m, why, no)
		}
		d := api.Disk{Sectors: []string{s, o}, Fuse: fuse, Off: off}
		now, no := manifest.Load(d)
		if is := disk.Check(d); is != api.OK && no != is || no != api.OK && !noManifest(now) || no == api.OK && now.Epoch < m.Epoch {
			t.Fatalf("Load: %v, error %d, and the disk's is %d", now, no, is)
		}
		m.Epoch = now.Epoch + 1
		if e, why := manifest.Save(d, m); why == api.OK && e.Sectors[m.Epoch%2] != plainSector(m) || why == api.ErrForm && !noDisk(e) && !sameDisk(e, d) {
			t.Fatalf("Save: error %d, and %v", why, e)
		}
	})
}

// Any many parts of a manifest, and any numbers in them, come to an answer.
func FuzzAnyManifest(f *testing.F) {
	f.Add(uint64(1), 3, 0, uint64(1), 5)
	f.Add(uint64(0), 1000, -1, uint64(math.MaxUint64), math.MinInt)
	f.Fuzz(func(t *testing.T, epoch uint64, many, seg int, tag uint64, records int) {
		m := api.Manifest{Epoch: epoch}
		for i := range min(max(many, 0), 20) {
			m.Parts = append(m.Parts, api.Part{Seg: seg + i, Tag: tag + uint64(i), Many: records})
		}
		s, why := manifest.Put(m)
		if why != manifest.Check(m) || why == api.OK && s != plainSector(m) || why != api.OK && s != "" {
			t.Fatalf("Put(%v): %x, error %d", m, s, why)
		}
	})
}

func TestAnswersHangOnArgumentsAlone(t *testing.T) {
	for range 3 {
		d, _ := disk.Make(3)
		e, why := manifest.Save(d, of(1, [3]int{2, 5, 3}))
		if m, no := manifest.Load(e); why != api.OK || no != api.OK || !sameManifest(m, of(1, [3]int{2, 5, 3})) {
			t.Fatalf("%v, errors %d and %d", m, why, no)
		}
	}
}

func TestNoGoroutineIsLeft(t *testing.T) {
	before := runtime.NumGoroutine()
	d, _ := disk.Make(3)
	d, _ = manifest.Save(d, full(1))
	manifest.Load(d)
	s, _ := manifest.Put(full(9))
	manifest.Get(s)
	manifest.Check(full(9))
	if after := runtime.NumGoroutine(); after > before {
		t.Errorf("%d goroutines, and %d ahead of the calls", after, before)
	}
}
