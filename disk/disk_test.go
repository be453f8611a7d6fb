package disk_test

import (
	"math"
	"math/rand"
	"reflect"
	"runtime"
	"slices"
	"strings"
	"testing"
	"unsafe"

	"spoor/api"
	"spoor/disk"
)

// The calls have the signatures of doc/03-disk.md.
var (
	_ func(int) (api.Disk, api.Errno)                        = disk.Make
	_ func(api.Disk) api.Errno                               = disk.Check
	_ func(api.Disk, int) (string, api.Errno)                = disk.Read
	_ func(api.Disk, int, string) (api.Disk, api.Errno)      = disk.Write
	_ func(api.Disk) (api.Disk, api.Errno)                   = disk.Flush
	_ func(api.Disk, []bool, int, int) (api.Disk, api.Errno) = disk.Crash
	_ func(api.Disk) ([]string, api.Errno)                   = disk.Held
)

// full is a sector's data of one byte.
func full(b byte) string {
	return strings.Repeat(string([]byte{b}), api.SectorSize)
}

// fullOf is a row of sectors' data, each of one byte of s.
func fullOf(s string) []string {
	var l []string
	for i := range len(s) {
		l = append(l, full(s[i]))
	}
	return l
}

// byHand is a disk whose sectors are of the bytes of sectors each, and whose cache has, for each two bytes of cache, a sector's place as a digit and the data's byte.
func byHand(sectors, cache string) api.Disk {
	d := api.Disk{Sectors: fullOf(sectors), Fuse: -1}
	for i := 0; i < len(cache); i += 2 {
		d.Cache = append(d.Cache, api.Put{At: int(cache[i] - '0'), Data: full(cache[i+1])})
	}
	return d
}

func withFuse(d api.Disk, fuse int) api.Disk {
	d.Fuse = fuse
	return d
}

func off(d api.Disk) api.Disk {
	d.Off = true
	return d
}

// same tells whether two disks are alike; nil and empty lists are.
func same(a, b api.Disk) bool {
	return slices.Equal(a.Sectors, b.Sectors) && slices.Equal(a.Cache, b.Cache) && a.Fuse == b.Fuse && a.Off == b.Off
}

func isZero(d api.Disk) bool {
	return len(d.Sectors) == 0 && len(d.Cache) == 0 && d.Fuse == 0 && !d.Off
}

// deep is a disk of the same things, in other memory.
func deep(d api.Disk) api.Disk {
	e := api.Disk{Fuse: d.Fuse, Off: d.Off}
	for _, s := range d.Sectors {
		e.Sectors = append(e.Sectors, strings.Clone(s))
	}
	for _, p := range d.Cache {
		e.Cache = append(e.Cache, api.Put{At: p.At, Data: strings.Clone(p.Data)})
	}
	return e
}

// rightDisks are of all sorts that may be.
func rightDisks() []api.Disk {
	most := api.Disk{Sectors: fullOf(strings.Repeat("m", api.MaxSectors)), Fuse: -1}
	for i := range api.MaxCache {
		most.Cache = append(most.Cache, api.Put{At: (i * 7) % api.MaxSectors, Data: full(byte(i))})
	}
	empty := byHand("ab", "")
	empty.Cache = []api.Put{}
	return []api.Disk{
		byHand("a", ""), byHand("a", "0b"), byHand("ab", "1c"), byHand("abc", "0d2e0f"), empty,
		withFuse(byHand("ab", "1c"), 0), withFuse(byHand("ab", "1c"), 1), withFuse(byHand("ab", "1c"), math.MaxInt),
		off(byHand("ab", "1c0d")), off(withFuse(byHand("ab", "1c"), 0)), off(withFuse(byHand("ab", ""), 5)), most,
	}
}

// wrongDisks are not right, each for one reason.
func wrongDisks() map[string]api.Disk {
	long := api.Disk{Sectors: fullOf(strings.Repeat("m", api.MaxSectors+1)), Fuse: -1}
	crowded := api.Disk{Sectors: fullOf("a"), Fuse: -1}
	for range api.MaxCache + 1 {
		crowded.Cache = append(crowded.Cache, api.Put{Data: full('b')})
	}
	l := map[string]api.Disk{
		"no sectors":             {Fuse: -1},
		"an empty list of them":  {Sectors: []string{}, Fuse: -1},
		"a sector too many":      long,
		"a write too many":       crowded,
		"fuse -2":                withFuse(byHand("a", ""), -2),
		"the least fuse":         withFuse(byHand("a", ""), math.MinInt),
		"no sectors, and writes": {Cache: []api.Put{{Data: full('b')}}, Fuse: -1},
		"zero":                   {},
	}
	for _, data := range []string{"", "a", full('a')[1:], full('a') + "a"} {
		for at := range 3 {
			sector, write := byHand("abc", "0d1e2f"), byHand("abc", "0d1e2f")
			sector.Sectors[at] = data
			write.Cache[at].Data = data
			l[string(rune('0'+at))+" a sector of "+data] = sector
			l[string(rune('0'+at))+" a write of "+data] = write
		}
	}
	for name, at := range map[string]int{"-1": -1, "3": 3, "4": 4, "the least": math.MinInt, "the greatest": math.MaxInt} {
		for place := range 3 {
			d := byHand("abc", "0d1e2f")
			d.Cache[place].At = at
			l[string(rune('0'+place))+" a write at "+name] = d
		}
	}
	return l
}

// 3.1

func TestMakeMakesADiskOfZeroBytes(t *testing.T) {
	for _, many := range []int{1, 2, 3, 100, api.MaxSectors - 1, api.MaxSectors} {
		d, why := disk.Make(many)
		if why != api.OK || len(d.Sectors) != many || len(d.Cache) != 0 || d.Fuse != -1 || d.Off {
			t.Fatalf("Make(%d): %d sectors, %d writes, fuse %d, off %v, error %d", many, len(d.Sectors), len(d.Cache), d.Fuse, d.Off, why)
		}
		for i, s := range d.Sectors {
			if s != full(0) {
				t.Fatalf("Make(%d): sector %d is %x", many, i, s)
			}
		}
		if why := disk.Check(d); why != api.OK {
			t.Errorf("Make(%d) is not right: error %d", many, why)
		}
	}
}

func TestMakeRefusesOtherNumbersOfSectors(t *testing.T) {
	for _, many := range []int{0, -1, -2, math.MinInt, api.MaxSectors + 1, api.MaxSectors + 2, 1 << 32, math.MaxInt} {
		if d, why := disk.Make(many); !isZero(d) || why != api.ErrRange {
			t.Errorf("Make(%d): %d sectors, error %d", many, len(d.Sectors), why)
		}
	}
}

func TestCheckOfRightDisks(t *testing.T) {
	for i, d := range rightDisks() {
		if why := disk.Check(d); why != api.OK {
			t.Errorf("right disk %d: error %d", i, why)
		}
	}
}

// Whatever else is wrong with a call, a disk that is not right is told of first, with nothing beside it.
func TestWrongDisksAreToldOfFirst(t *testing.T) {
	for name, d := range wrongDisks() {
		for _, d := range []api.Disk{d, off(d)} {
			if why := disk.Check(d); why != api.ErrForm {
				t.Errorf("%s: Check: error %d", name, why)
			}
			for _, at := range []int{-1, 0, 9} {
				if s, why := disk.Read(d, at); s != "" || why != api.ErrForm {
					t.Errorf("%s: Read: %q, error %d", name, s, why)
				}
				for _, data := range []string{"", full('z')} {
					if e, why := disk.Write(d, at, data); !isZero(e) || why != api.ErrForm {
						t.Errorf("%s: Write: error %d, and %v", name, why, e)
					}
				}
			}
			if e, why := disk.Flush(d); !isZero(e) || why != api.ErrForm {
				t.Errorf("%s: Flush: error %d, and %v", name, why, e)
			}
			if e, why := disk.Crash(d, []bool{true, true}, 0, 1); !isZero(e) || why != api.ErrForm {
				t.Errorf("%s: Crash: error %d, and %v", name, why, e)
			}
			if l, why := disk.Held(d); len(l) != 0 || why != api.ErrForm {
				t.Errorf("%s: Held: error %d, and %d sectors", name, why, len(l))
			}
		}
	}
}

// plainHeld is what each sector holds, by the document's words.
func plainHeld(d api.Disk) []string {
	var l []string
	for at, held := range d.Sectors {
		for _, p := range d.Cache {
			if p.At == at {
				held = p.Data
			}
		}
		l = append(l, held)
	}
	return l
}

func TestHeldIsTheLastWriteOfEachSector(t *testing.T) {
	if l, why := disk.Held(byHand("abc", "0d2e0f")); !slices.Equal(l, fullOf("fbe")) || why != api.OK {
		t.Errorf("Held: %q, error %d", l, why)
	}
	for i, d := range rightDisks() {
		if l, why := disk.Held(d); !slices.Equal(l, plainHeld(d)) || why != api.OK {
			t.Errorf("Held of right disk %d: error %d", i, why)
		}
	}
}

// 3.2

func TestReadAnswersWhatASectorHolds(t *testing.T) {
	for i, d := range rightDisks() {
		if d.Off {
			continue
		}
		for at, held := range plainHeld(d) {
			if s, why := disk.Read(d, at); s != held || why != api.OK {
				t.Fatalf("right disk %d: Read(%d): %q, error %d", i, at, s, why)
			}
		}
	}
}

func TestReadRefuses(t *testing.T) {
	d := byHand("abc", "0d")
	for _, at := range []int{-1, -2, math.MinInt, 3, 4, math.MaxInt} {
		if s, why := disk.Read(d, at); s != "" || why != api.ErrRange {
			t.Errorf("Read(%d): %q, error %d", at, s, why)
		}
		if s, why := disk.Read(off(d), at); s != "" || why != api.ErrPower {
			t.Errorf("Read(%d) without power: %q, error %d", at, s, why)
		}
	}
	for at := range 3 {
		if s, why := disk.Read(off(d), at); s != "" || why != api.ErrPower {
			t.Errorf("Read(%d) without power: %q, error %d", at, s, why)
		}
	}
}

// To read is no work: a fuse of 0 does not matter to it.
func TestReadNeedsNoFuse(t *testing.T) {
	if s, why := disk.Read(withFuse(byHand("a", "0b"), 0), 0); s != full('b') || why != api.OK {
		t.Errorf("Read with fuse 0: %q, error %d", s, why)
	}
}

func TestWritePutsBehindTheCache(t *testing.T) {
	for fuse, left := range map[int]int{-1: -1, 1: 0, 2: 1, 7: 6, math.MaxInt: math.MaxInt - 1} {
		for _, cache := range []string{"", "0c", "1c", "1c0d1e"} {
			for _, at := range []string{"0", "1"} {
				d, want := withFuse(byHand("ab", cache), fuse), withFuse(byHand("ab", cache+at+"z"), left)
				if e, why := disk.Write(d, int(at[0]-'0'), full('z')); !same(e, want) || why != api.OK {
					t.Errorf("Write at %s behind %q with fuse %d: %v, error %d", at, cache, fuse, e, why)
				}
			}
		}
	}
}

func TestWriteThatMeetsAFuseOfZero(t *testing.T) {
	e, why := disk.Write(withFuse(byHand("ab", "0c"), 0), 1, full('z'))
	if !same(e, off(withFuse(byHand("ab", "0c1z"), 0))) || why != api.ErrPower {
		t.Errorf("Write with fuse 0: %v, error %d", e, why)
	}
}

// withWrites is a disk whose cache has so many writes.
func withWrites(many int) api.Disk {
	d := byHand("ab", "")
	for i := range many {
		d.Cache = append(d.Cache, api.Put{At: i % 2, Data: full(byte(i))})
	}
	return d
}

func TestWriteRefuses(t *testing.T) {
	crowded := withWrites(api.MaxCache)
	for _, c := range []struct {
		say  string
		d    api.Disk
		at   int
		data string
		why  api.Errno
	}{
		{"off", off(byHand("ab", "0c")), 1, full('z'), api.ErrPower},
		{"off, with a fuse", off(withFuse(byHand("ab", "0c"), 3)), 1, full('z'), api.ErrPower},
		{"off, with a fuse of 0", off(withFuse(byHand("ab", "0c"), 0)), 1, full('z'), api.ErrPower},
		{"off, and no such sector", off(byHand("ab", "0c")), 2, "", api.ErrPower},
		{"off, and full", off(crowded), 1, full('z'), api.ErrPower},
		{"at -1", byHand("ab", "0c"), -1, full('z'), api.ErrRange},
		{"at the number of sectors", byHand("ab", "0c"), 2, full('z'), api.ErrRange},
		{"at the least", byHand("ab", "0c"), math.MinInt, full('z'), api.ErrRange},
		{"at the greatest", byHand("ab", "0c"), math.MaxInt, full('z'), api.ErrRange},
		{"at 2, too short", byHand("ab", "0c"), 2, "z", api.ErrRange},
		{"at 2, full", crowded, 2, full('z'), api.ErrRange},
		{"at 2, fuse 0", withFuse(byHand("ab", "0c"), 0), 2, full('z'), api.ErrRange},
		{"at 2, fuse 3", withFuse(byHand("ab", "0c"), 3), 2, full('z'), api.ErrRange},
		{"nothing", byHand("ab", "0c"), 1, "", api.ErrLong},
		{"a byte too few", byHand("ab", "0c"), 1, full('z')[1:], api.ErrLong},
		{"a byte too many", byHand("ab", "0c"), 1, full('z') + "z", api.ErrLong},
		{"a byte too many, full", crowded, 1, full('z') + "z", api.ErrLong},
		{"a byte too few, fuse 0", withFuse(byHand("ab", "0c"), 0), 1, full('z')[1:], api.ErrLong},
		{"a byte too few, fuse 3", withFuse(byHand("ab", "0c"), 3), 1, full('z')[1:], api.ErrLong},
		{"full", crowded, 1, full('z'), api.ErrFull},
		{"full, fuse 0", withFuse(crowded, 0), 1, full('z'), api.ErrFull},
		{"full, fuse 3", withFuse(crowded, 3), 1, full('z'), api.ErrFull},
	} {
		if e, why := disk.Write(c.d, c.at, c.data); !same(e, c.d) || why != c.why {
			t.Errorf("%s: error %d, not %d; as it was: %v", c.say, why, c.why, same(e, c.d))
		}
	}
}

func TestWriteUpToMaxCache(t *testing.T) {
	d, want := withWrites(api.MaxCache-1), withWrites(api.MaxCache)
	last := want.Cache[api.MaxCache-1]
	if e, why := disk.Write(d, last.At, last.Data); !same(e, want) || why != api.OK {
		t.Errorf("the write of place %d: error %d", api.MaxCache-1, why)
	}
}

func TestFlushKeepsWhatIsHeld(t *testing.T) {
	for i, d := range rightDisks() {
		if d.Off || d.Fuse == 0 {
			continue
		}
		left := d.Fuse
		if left > 0 {
			left--
		}
		want := api.Disk{Sectors: plainHeld(d), Fuse: left}
		if e, why := disk.Flush(d); !same(e, want) || why != api.OK {
			t.Errorf("right disk %d: %d writes are left, fuse %d, error %d", i, len(e.Cache), e.Fuse, why)
		}
	}
	if e, why := disk.Flush(withFuse(byHand("abc", "0d2e0f"), 1)); !same(e, withFuse(byHand("fbe", ""), 0)) || why != api.OK {
		t.Errorf("Flush with fuse 1: %v, error %d", e, why)
	}
}

func TestFlushWithoutPower(t *testing.T) {
	for _, cache := range []string{"", "0d", "0d2e0f"} {
		d := byHand("abc", cache)
		if e, why := disk.Flush(withFuse(d, 0)); !same(e, off(withFuse(d, 0))) || why != api.ErrPower {
			t.Errorf("Flush with fuse 0: %v, error %d", e, why)
		}
		for _, fuse := range []int{-1, 0, 3} {
			if e, why := disk.Flush(off(withFuse(d, fuse))); !same(e, off(withFuse(d, fuse))) || why != api.ErrPower {
				t.Errorf("Flush without power, fuse %d: %v, error %d", fuse, e, why)
			}
		}
	}
}

func TestTheFuseIsForWritesAndFlushesTogether(t *testing.T) {
	d := withFuse(byHand("ab", ""), 3)
	var whys []api.Errno
	for i := range 5 {
		var why api.Errno
		if i == 1 {
			d, why = disk.Flush(d)
		} else {
			d, why = disk.Write(d, i%2, full(byte('0'+i)))
		}
		whys = append(whys, why)
	}
	if !slices.Equal(whys, []api.Errno{api.OK, api.OK, api.OK, api.ErrPower, api.ErrPower}) {
		t.Errorf("errors %d", whys)
	}
	if want := off(withFuse(byHand("0b", "0213"), 0)); !same(d, want) {
		t.Errorf("then it is %v", d)
	}
}

// 3.3

// plainCrash is the document's words for a crash, byte by byte.
func plainCrash(d api.Disk, keep []bool, torn, bytes int) api.Disk {
	var sectors [][]byte
	for _, s := range d.Sectors {
		sectors = append(sectors, []byte(s))
	}
	for i, p := range d.Cache {
		for k := range api.SectorSize {
			if i == torn && k < bytes || i != torn && i < len(keep) && keep[i] {
				sectors[p.At][k] = p.Data[k]
			}
		}
	}
	e := api.Disk{Fuse: -1}
	for _, s := range sectors {
		e.Sectors = append(e.Sectors, string(s))
	}
	return e
}

func TestCrashByHand(t *testing.T) {
	d := byHand("abc", "0d1e0f")
	part := func(head byte, many int, rest byte) string {
		return full(head)[:many] + full(rest)[many:]
	}
	for _, c := range []struct {
		keep        []bool
		torn, bytes int
		want        []string
	}{
		{nil, -1, 0, fullOf("abc")},
		{nil, -1, 5, fullOf("abc")},
		{[]bool{}, 3, 5, fullOf("abc")},
		{[]bool{true, true, true}, -1, 0, fullOf("fec")},
		{[]bool{true, true, true, true, true}, 4, 7, fullOf("fec")},
		{[]bool{true}, -1, 0, fullOf("dbc")},
		{[]bool{false, true}, -1, 0, fullOf("aec")},
		{[]bool{true, false, false}, math.MinInt, 9, fullOf("dbc")},
		{nil, 0, 1, []string{part('d', 1, 'a'), full('b'), full('c')}},
		{nil, 0, 127, []string{part('d', 127, 'a'), full('b'), full('c')}},
		{nil, 0, 128, fullOf("dbc")},
		{nil, 0, 129, fullOf("dbc")},
		{nil, 0, math.MaxInt, fullOf("dbc")},
		{nil, 0, 0, fullOf("abc")},
		{nil, 0, -1, fullOf("abc")},
		{nil, 0, math.MinInt, fullOf("abc")},
		{[]bool{true, true, true}, 0, 0, fullOf("fec")},
		{[]bool{true, true, true}, 1, 3, []string{full('f'), part('e', 3, 'b'), full('c')}},
		{[]bool{true, true, true}, 2, 3, []string{part('f', 3, 'd'), full('e'), full('c')}},
		{[]bool{false, true, true}, 2, 3, []string{part('f', 3, 'a'), full('e'), full('c')}},
		{[]bool{true, false, true}, 0, 64, fullOf("fbc")},
		{[]bool{true, true}, 2, 0, fullOf("dec")},
	} {
		for _, d := range []api.Disk{d, off(d), withFuse(d, 0), off(withFuse(d, 7))} {
			e, why := disk.Crash(d, c.keep, c.torn, c.bytes)
			if want := (api.Disk{Sectors: c.want, Fuse: -1}); !same(e, want) || why != api.OK {
				t.Errorf("keep %v, torn %d, bytes %d: %v, error %d", c.keep, c.torn, c.bytes, e, why)
			}
		}
	}
}

func TestCrashOfAllSorts(t *testing.T) {
	keeps := [][]bool{nil, {}, {true}, {false}, {false, true, false, true}, slices.Repeat([]bool{true}, api.MaxCache), slices.Repeat([]bool{false, true, true}, api.MaxCache)}
	for i, d := range rightDisks() {
		for _, keep := range keeps {
			for _, torn := range []int{-1, 0, 1, 2, len(d.Cache) - 1, len(d.Cache), math.MaxInt} {
				for _, bytes := range []int{-1, 0, 1, 60, 127, 128, 129} {
					if len(d.Cache) > 100 && bytes != 60 {
						continue
					}
					e, why := disk.Crash(d, keep, torn, bytes)
					if !same(e, plainCrash(d, keep, torn, bytes)) || why != api.OK {
						t.Fatalf("right disk %d, keep %d, torn %d, bytes %d: error %d", i, len(keep), torn, bytes, why)
					}
				}
			}
		}
	}
}

// 3.4

// share tells whether two texts lie in the same memory, in part at least.
func share(a, b string) bool {
	if len(a) == 0 || len(b) == 0 {
		return false
	}
	fromA, fromB := uintptr(unsafe.Pointer(unsafe.StringData(a))), uintptr(unsafe.Pointer(unsafe.StringData(b)))
	return fromA < fromB+uintptr(len(b)) && fromB < fromA+uintptr(len(a))
}

// texts are all texts of a disk.
func texts(d api.Disk) []string {
	l := slices.Clone(d.Sectors)
	for _, p := range d.Cache {
		l = append(l, p.Data)
	}
	return l
}

// answers are what all calls that tell of d's texts answer.
func answers(d api.Disk, data string) []api.Disk {
	a, _ := disk.Write(d, 0, data)
	b, _ := disk.Write(d, -1, data)
	c, _ := disk.Flush(d)
	e, _ := disk.Crash(d, []bool{true}, 1, 9)
	f, _ := disk.Crash(d, nil, 0, 128)
	held, _ := disk.Held(d)
	one, _ := disk.Read(d, 0)
	return []api.Disk{a, b, c, e, f, {Sectors: held}, {Sectors: []string{one}}}
}

func TestTextsAreNewMemory(t *testing.T) {
	data := full('z')
	for i, d := range rightDisks() {
		if len(d.Cache) > 100 {
			continue
		}
		all := append(answers(d, data), answers(d, data)...)
		all = append(all, d, api.Disk{Sectors: []string{data}})
		var told []string
		for _, e := range all {
			told = append(told, texts(e)...)
		}
		for k, a := range told {
			for m, b := range told[:k] {
				if share(a, b) {
					t.Fatalf("right disk %d: texts %d and %d share memory", i, m, k)
				}
			}
		}
	}
	a, _ := disk.Make(3)
	b, _ := disk.Make(3)
	for i, s := range a.Sectors {
		for k, o := range b.Sectors {
			if share(s, o) || i != k && share(s, a.Sectors[k]) {
				t.Errorf("made sectors %d and %d share memory", i, k)
			}
		}
	}
}

// spoil writes over all that lists of a disk have, and over the room behind them.
func spoil(d api.Disk) {
	sectors, cache := d.Sectors[:cap(d.Sectors)], d.Cache[:cap(d.Cache)]
	for i := range sectors {
		sectors[i] = "spoilt"
	}
	for i := range cache {
		cache[i] = api.Put{At: -9, Data: "spoilt"}
	}
}

func TestListsAreNewMemory(t *testing.T) {
	for i, d := range rightDisks() {
		before := deep(d)
		told := answers(d, full('z'))
		again := answers(d, full('z'))
		if !same(d, before) {
			t.Fatalf("right disk %d was changed", i)
		}
		for k, e := range told {
			want := deep(again[k])
			spoil(e)
			if !same(d, before) || !same(again[k], want) {
				t.Fatalf("right disk %d: answer %d shares memory", i, k)
			}
		}
		spoil(d)
		for k, e := range answers(before, full('z')) {
			if !same(e, again[k]) {
				t.Fatalf("right disk %d: answer %d shares the argument's memory", i, k)
			}
		}
	}
}

func TestKeepIsNotChanged(t *testing.T) {
	keep := []bool{true, false, true}
	disk.Crash(byHand("abc", "0d1e0f"), keep, 0, 1)
	if !slices.Equal(keep, []bool{true, false, true}) {
		t.Errorf("keep is %v", keep)
	}
}

// A cache with room behind it is not written into: two writes to one disk are apart.
func TestRoomBehindTheCacheIsLeftAlone(t *testing.T) {
	d := byHand("ab", "0c")
	room := make([]api.Put, 1, 8)
	copy(room, d.Cache)
	d.Cache = room
	e, _ := disk.Write(d, 0, full('e'))
	f, _ := disk.Write(d, 1, full('f'))
	if !same(e, byHand("ab", "0c0e")) || !same(f, byHand("ab", "0c1f")) {
		t.Errorf("two writes to one disk: %v and %v", e, f)
	}
	if behind := room[:8]; !reflect.DeepEqual(behind[1:], make([]api.Put, 7)) {
		t.Errorf("behind the cache there is %v", behind[1:])
	}
}

// 3.5, 3.6, 3.7

func TestExample(t *testing.T) {
	d, _ := disk.Make(1)
	d, _ = disk.Write(d, 0, full('a'))
	d, _ = disk.Flush(d)
	d, _ = disk.Write(d, 0, full('b'))
	if s, why := disk.Read(d, 0); s != full('b') || why != api.OK {
		t.Errorf("read %q, error %d", s, why)
	}
	d, _ = disk.Crash(d, nil, 0, 1)
	if s, why := disk.Read(d, 0); s != "b"+full('a')[1:] || why != api.OK {
		t.Errorf("behind the crash %q, error %d", s, why)
	}
}

// world is what is known of a disk that is played with, told apart from it.
type world struct {
	flushed []string   // of each sector what was flushed last
	since   [][]string // of each sector what was written since, in order
	many    int        // all writes since
	fuse    int
	off     bool
}

func (w *world) last(at int) string {
	if l := w.since[at]; len(l) > 0 {
		return l[len(l)-1]
	}
	return w.flushed[at]
}

// spend tells whether there is power for a write or a flush.
func (w *world) spend() bool {
	if w.off || w.fuse == 0 {
		w.off = true
		return false
	}
	if w.fuse > 0 {
		w.fuse--
	}
	return true
}

func noise(r *rand.Rand) string {
	b := make([]byte, api.SectorSize)
	r.Read(b)
	return string(b)
}

// play does one thing to the disk and to the world, and holds them against each other.
func (w *world) play(t *testing.T, r *rand.Rand, d api.Disk) api.Disk {
	t.Helper()
	switch n := r.Intn(10); {
	case n < 6:
		was, at, data := w.off, r.Intn(len(w.flushed)+2)-1, noise(r)
		there := at >= 0 && at < len(w.flushed)
		var why, want api.Errno
		d, why = disk.Write(d, at, data)
		switch {
		case was:
			want = api.ErrPower
		case !there:
			want = api.ErrRange
		default:
			if !w.spend() {
				want = api.ErrPower
			}
			w.since[at] = append(w.since[at], data)
			w.many++
		}
		if why != want {
			t.Fatalf("Write at %d: error %d, not %d", at, why, want)
		}
	case n < 8:
		var why, want api.Errno
		d, why = disk.Flush(d)
		if w.spend() {
			for at := range w.flushed {
				w.flushed[at], w.since[at] = w.last(at), nil
			}
			w.many = 0
		} else {
			want = api.ErrPower
		}
		if why != want {
			t.Fatalf("Flush: error %d, not %d", why, want)
		}
	case n < 9:
		d.Fuse = r.Intn(9) - 1
		w.fuse = d.Fuse
	default:
		d = w.crash(t, r, d)
	}
	return d
}

// crash has the power go, and holds what is there against what may be.
func (w *world) crash(t *testing.T, r *rand.Rand, d api.Disk) api.Disk {
	t.Helper()
	keep := make([]bool, r.Intn(w.many+3))
	for i := range keep {
		keep[i] = r.Intn(2) == 0
	}
	d, why := disk.Crash(d, keep, r.Intn(w.many+3)-1, r.Intn(140)-5)
	if why != api.OK || d.Off || d.Fuse != -1 || len(d.Cache) != 0 {
		t.Fatalf("Crash: off %v, fuse %d, %d writes, error %d", d.Off, d.Fuse, len(d.Cache), why)
	}
	torn := 0
	for at, s := range d.Sectors {
		may := append([]string{w.flushed[at]}, w.since[at]...)
		if !slices.Contains(may, s) {
			torn++
		}
		for k := range s {
			if !slices.ContainsFunc(may, func(o string) bool { return o[k] == s[k] }) {
				t.Fatalf("sector %d has a byte at %d that none had", at, k)
			}
		}
		if len(may) == 1 && s != may[0] {
			t.Fatalf("sector %d was flushed, not written again, and is another one", at)
		}
		w.flushed[at], w.since[at] = s, nil
	}
	if torn > 1 {
		t.Fatalf("%d sectors are torn", torn)
	}
	w.many, w.fuse, w.off = 0, -1, false
	return d
}

func TestPlayed(t *testing.T) {
	for seed := range 200 {
		r := rand.New(rand.NewSource(int64(seed)))
		many := 1 + r.Intn(5)
		d, _ := disk.Make(many)
		w := &world{flushed: slices.Repeat([]string{full(0)}, many), since: make([][]string, many), fuse: -1}
		for range 100 {
			d = w.play(t, r, d)
			held, why := disk.Held(d)
			if why != api.OK || d.Off != w.off || d.Fuse != w.fuse || len(d.Cache) != w.many {
				t.Fatalf("seed %d: off %v, fuse %d, %d writes, error %d", seed, d.Off, d.Fuse, len(d.Cache), why)
			}
			for at := range many {
				s, why := disk.Read(d, at)
				if held[at] != w.last(at) || !w.off && (s != held[at] || why != api.OK) || w.off && (s != "" || why != api.ErrPower) {
					t.Fatalf("seed %d: sector %d is not what was written last, error %d", seed, at, why)
				}
			}
		}
	}
}

// P1, P3, P4

func FuzzAnyDisk(f *testing.F) {
	f.Add(2, "0a1b", -1, false, 1, 3, "data")
	f.Add(0, "", -2, true, -1, -1, "")
	f.Add(1, "00", 0, false, 0, 0, full('z'))
	f.Fuzz(func(t *testing.T, many int, cache string, fuse int, off bool, at, bytes int, data string) {
		d := api.Disk{Fuse: fuse, Off: off}
		for i := range min(max(many, 0), 5) {
			d.Sectors = append(d.Sectors, full(byte(i)))
		}
		for i := 0; i+1 < len(cache); i += 2 {
			d.Cache = append(d.Cache, api.Put{At: int(int8(cache[i])), Data: full(cache[i+1])})
		}
		check := disk.Check(d)
		_, read := disk.Read(d, at)
		e, _ := disk.Write(d, at, data)
		g, _ := disk.Flush(d)
		c, crash := disk.Crash(d, []bool{off, !off}, at, bytes)
		_, held := disk.Held(d)
		if (check == api.ErrForm) != (read == api.ErrForm) || crash != check || held != check {
			t.Fatalf("errors %d, %d, %d, %d", check, read, crash, held)
		}
		for _, x := range []api.Disk{e, g, c} {
			if check == api.OK && disk.Check(x) != api.OK || check != api.OK && !isZero(x) {
				t.Fatalf("check %d, and then %v", check, x)
			}
		}
	})
}

func TestAnswersHangOnArgumentsAlone(t *testing.T) {
	for i, d := range rightDisks() {
		one, two := answers(d, full('z')), answers(deep(d), full('z'))
		for k := range one {
			if !same(one[k], two[k]) {
				t.Errorf("right disk %d: answer %d turned", i, k)
			}
		}
	}
}

func TestNoGoroutineIsLeft(t *testing.T) {
	before := runtime.NumGoroutine()
	for _, d := range rightDisks() {
		answers(d, full('z'))
	}
	disk.Make(api.MaxSectors)
	disk.Check(api.Disk{})
	if after := runtime.NumGoroutine(); after > before {
		t.Errorf("%d goroutines, and %d ahead of the calls", after, before)
	}
}
