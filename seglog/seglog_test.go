package seglog_test

import (
	"math"
	"math/rand"
	"runtime"
	"slices"
	"strconv"
	"strings"
	"testing"
	"unsafe"

	"spoor/api"
	"spoor/disk"
	"spoor/frame"
	"spoor/manifest"
	"spoor/page"
	"spoor/seglog"
	"spoor/segment"
)

// The calls have the signatures of doc/08-seglog.md.
var (
	_ func(int) (api.Disk, api.Errno)                 = seglog.Format
	_ func(api.Disk) ([]string, api.Errno)            = seglog.Records
	_ func(api.Disk, ...string) (api.Disk, api.Errno) = seglog.Append
	_ func(api.Disk) (api.Disk, api.Errno)            = seglog.Recover
	_ func(api.Disk, ...string) (api.Disk, api.Errno) = seglog.Switch
	_ func(api.Disk) (int, api.Errno)                 = seglog.Free
	_ func(api.Disk) (int, api.Errno)                 = seglog.Size
)

func zeros(many int) string {
	return strings.Repeat("\x00", many)
}

// made is a disk of so many zero sectors.
func made(sectors int) api.Disk {
	return api.Disk{Sectors: slices.Repeat([]string{zeros(128)}, sectors), Fuse: -1}
}

// of are records of so many bytes each.
func of(sizes ...int) []string {
	var l []string
	for i, n := range sizes {
		l = append(l, strings.Repeat(string(rune('a'+i%26)), n))
	}
	return l
}

func framesOf(records []string) string {
	text := ""
	for _, r := range records {
		f, why := frame.Put(r)
		if why != api.OK {
			panic("a record that can't be framed")
		}
		text += f
	}
	return text
}

// pagesOf are the pages of records, and of what may be behind them.
func pagesOf(tag uint64, records []string, behind string) []string {
	l, why := page.Split(tag, framesOf(records)+behind)
	if why != api.OK {
		panic("records that can't be split")
	}
	return l
}

// part is a part of a log that is made by hand: what its segment has, and what is behind that, too.
type part struct {
	api.Part
	records []string
	behind  string
}

// logOf is a disk whose log has those parts, all of it flushed.
func logOf(sectors int, epoch uint64, parts ...part) api.Disk {
	d := made(sectors)
	m := api.Manifest{Epoch: epoch}
	for _, p := range parts {
		m.Parts = append(m.Parts, p.Part)
		copy(d.Sectors[2+p.Seg*((sectors-2)/8):], pagesOf(p.Tag, p.records, p.behind))
	}
	s, why := manifest.Put(m)
	if why != api.OK {
		panic("a manifest that is not right")
	}
	d.Sectors[epoch%2] = s
	return d
}

// closedPart is closed with all the records that it has.
func closedPart(seg int, tag uint64, records ...string) part {
	return part{api.Part{Seg: seg, Tag: tag, Many: len(records)}, records, ""}
}

func openPart(seg int, tag uint64, records ...string) part {
	return part{api.Part{Seg: seg, Tag: tag, Many: -1}, records, ""}
}

func withFuse(d api.Disk, fuse int) api.Disk {
	d.Fuse = fuse
	return d
}

func off(d api.Disk) api.Disk {
	d.Off = true
	return d
}

// withPut is d with a write at a sector behind its cache.
func withPut(d api.Disk, at int, data string) api.Disk {
	d.Cache = append(slices.Clone(d.Cache), api.Put{At: at, Data: data})
	return d
}

// crowded is d with so many writes in its cache that change nothing.
func crowded(d api.Disk, many int) api.Disk {
	d.Cache = slices.Repeat([]api.Put{{At: 0, Data: d.Sectors[0]}}, many)
	return d
}

func sameDisk(a, b api.Disk) bool {
	return slices.Equal(a.Sectors, b.Sectors) && slices.Equal(a.Cache, b.Cache) && a.Fuse == b.Fuse && a.Off == b.Off
}

func noDisk(d api.Disk) bool {
	return len(d.Sectors)+len(d.Cache) == 0 && d.Fuse == 0 && !d.Off
}

func sameManifest(a, b api.Manifest) bool {
	return a.Epoch == b.Epoch && slices.Equal(a.Parts, b.Parts)
}

// has holds a disk's log against what it has to be: its records, and with them its size and how many segments are free.
func has(t *testing.T, say string, d api.Disk, records []string, free int) {
	t.Helper()
	if l, why := seglog.Records(d); !slices.Equal(l, records) || why != api.OK {
		t.Fatalf("%s: the records are %.200q, not %.200q, error %d", say, l, records, why)
	}
	if n, why := seglog.Free(d); n != free || why != api.OK {
		t.Fatalf("%s: %d segments are free, not %d, error %d", say, n, free, why)
	}
	if n, why := seglog.Size(d); n != len(framesOf(records)) || why != api.OK {
		t.Fatalf("%s: the size is %d, not %d, error %d", say, n, len(framesOf(records)), why)
	}
}

// 8.1

func TestFormatIsAnEmptyLog(t *testing.T) {
	first, _ := manifest.Put(api.Manifest{Epoch: 1})
	for sectors := 10; sectors <= api.MaxSectors; sectors += 1 + sectors/20 {
		want := made(sectors)
		want.Sectors[1] = first
		d, why := seglog.Format(sectors)
		if !sameDisk(d, want) || why != api.OK {
			t.Fatalf("%d sectors: error %d", sectors, why)
		}
		has(t, "formatted", d, nil, 8)
	}
	if d, why := seglog.Format(api.MaxSectors); len(d.Sectors) != api.MaxSectors || why != api.OK {
		t.Errorf("all sectors: %d, error %d", len(d.Sectors), why)
	}
}

func TestFormatRefuses(t *testing.T) {
	for _, sectors := range []int{math.MinInt, -10, -1, 0, 1, 2, 3, 8, 9, api.MaxSectors + 1, api.MaxSectors + 10, math.MaxInt} {
		if d, why := seglog.Format(sectors); !noDisk(d) || why != api.ErrRange {
			t.Errorf("%d sectors: %v, error %d", sectors, d, why)
		}
	}
}

func TestRecordsAreThoseOfTheParts(t *testing.T) {
	fewer := closedPart(2, 9, "a", "b", "c")
	fewer.Many = 2
	none := closedPart(2, 9, "a", "b")
	none.Many = 0
	half := openPart(4, 20, "x", "y")
	half.behind = framesOf([]string{"z"})[:4]
	closedHalf := closedPart(4, 20, "x", "y")
	closedHalf.behind = "\x01abcde"
	for _, c := range []struct {
		say   string
		parts []part
		want  []string
	}{
		{"none", nil, nil},
		{"one closed", []part{closedPart(3, 5, "a", "", "b")}, []string{"a", "", "b"}},
		{"one open", []part{openPart(3, 5, "a", "", "b")}, []string{"a", "", "b"}},
		{"one open, of nothing", []part{openPart(0, 5)}, nil},
		{"one closed, of nothing", []part{closedPart(0, 5)}, nil},
		{"closed with fewer than there are", []part{fewer, openPart(0, 10, "d")}, []string{"a", "b", "d"}},
		{"closed with none", []part{none, closedPart(1, 10, "d")}, []string{"d"}},
		{"in the manifest's order", []part{closedPart(6, 5, "a"), closedPart(2, 7, "b", "c"), openPart(4, 20, "d")}, []string{"a", "b", "c", "d"}},
		{"open, half a record behind", []part{closedPart(5, 3, "a"), half}, []string{"a", "x", "y"}},
		{"closed, no record behind", []part{closedHalf}, []string{"x", "y"}},
		{"long ones", []part{closedPart(7, 3, of(200)...), openPart(0, 9, of(100, 150)...)}, append(of(200), of(100, 150)...)},
		{"all segments", []part{
			closedPart(7, 1, "a"), closedPart(6, 2, "b"), closedPart(5, 3, "c"), closedPart(4, 4, "d"),
			closedPart(3, 5, "e"), closedPart(2, 6, "f"), closedPart(1, 7, "g"), openPart(0, 8, "h"),
		}, strings.Split("abcdefgh", "")},
	} {
		d := logOf(28, 6, c.parts...)
		for _, d := range []api.Disk{d, withFuse(d, 0), crowded(d, api.MaxCache)} {
			has(t, c.say, d, c.want, 8-len(c.parts))
		}
	}
}

// What a sector holds counts, flushed or not: of segments, and of the manifest.
func TestRecordsAreWhatIsHeld(t *testing.T) {
	d := logOf(26, 6, openPart(3, 5, "a"))
	d = withPut(d, 12, pagesOf(6, []string{"b"}, "")[0])
	has(t, "a page in the cache", d, []string{"a", "b"}, 7)
	next, _ := manifest.Put(api.Manifest{Epoch: 7, Parts: []api.Part{{Seg: 3, Tag: 5, Many: 1}}})
	has(t, "a manifest in the cache", withPut(d, 1, next), []string{"a"}, 7)
}

// wrongDisks are not right, though they have a log.
func wrongDisks() []api.Disk {
	d := logOf(26, 6, openPart(3, 5, "a"))
	short := logOf(26, 6, openPart(3, 5, "a"))
	short.Sectors[25] = zeros(127)
	return []api.Disk{
		{}, {Fuse: -1}, short, withFuse(d, -2), withFuse(d, math.MinInt), withPut(d, 26, zeros(128)), withPut(d, -1, zeros(128)),
		withPut(d, 3, zeros(129)), crowded(d, api.MaxCache+1), withFuse(made(9), -5), {Sectors: slices.Repeat(d.Sectors, 40), Fuse: -1},
	}
}

// broken are right disks without a log that can be read, each with what is told of it.
func broken() map[string]struct {
	d   api.Disk
	why api.Errno
} {
	small := made(9)
	small.Sectors[1], _ = manifest.Put(api.Manifest{Epoch: 1})
	more := closedPart(3, 5, "a", "b")
	more.Many = 3
	most := closedPart(3, 5, "a", "b")
	most.Many = api.MaxMany
	half := closedPart(3, 5, "a", "b")
	half.Many, half.behind = 3, framesOf([]string{"c"})[:5]
	sum := closedPart(3, 5, "a", "b")
	sum.Many, sum.behind = 3, "\x01abcde"
	tag := logOf(26, 6, closedPart(3, 5, "a"))
	tag.Sectors[11] = pagesOf(6, []string{"a"}, "")[0]
	good := logOf(26, 6, openPart(3, 5, "a"))
	return map[string]struct {
		d   api.Disk
		why api.Errno
	}{
		"nine sectors":                      {small, api.ErrRange},
		"nine sectors, off":                 {off(small), api.ErrRange},
		"one sector":                        {made(1), api.ErrRange},
		"off":                               {off(good), api.ErrPower},
		"off, with a fuse":                  {off(withFuse(good, 5)), api.ErrPower},
		"off, no log":                       {off(made(26)), api.ErrPower},
		"off, fewer records than it says":   {off(logOf(26, 6, more)), api.ErrPower},
		"no log":                            {made(26), api.ErrNone},
		"a log that is written over":        {withPut(good, 0, zeros(128)), api.ErrNone},
		"fewer records than it says":        {logOf(26, 6, more), api.ErrCode},
		"far fewer":                         {logOf(26, 6, most), api.ErrCode},
		"half a record":                     {logOf(26, 6, half), api.ErrCode},
		"a record of another sum":           {logOf(26, 6, sum), api.ErrCode},
		"a segment of another tag":          {tag, api.ErrCode},
		"fewer, and an open part behind it": {logOf(26, 6, closedPart(0, 4, "z"), more, openPart(1, 20, "y")), api.ErrCode},
		"fewer, a fuse of 0":                {withFuse(logOf(26, 6, more), 0), api.ErrCode},
	}
}

// 8.1 to 8.4: what all calls of a log answer first.
func TestWhatCanNotBeRead(t *testing.T) {
	type call struct {
		name string
		is   func(d api.Disk) (none, same bool, why api.Errno)
	}
	disks := func(name string, do func(api.Disk) (api.Disk, api.Errno)) call {
		return call{name, func(d api.Disk) (bool, bool, api.Errno) {
			e, why := do(d)
			return noDisk(e), sameDisk(e, d), why
		}}
	}
	changes := []call{
		disks("Append", func(d api.Disk) (api.Disk, api.Errno) { return seglog.Append(d, "a") }),
		disks("Append of none", func(d api.Disk) (api.Disk, api.Errno) { return seglog.Append(d) }),
		disks("Append of a long one", func(d api.Disk) (api.Disk, api.Errno) { return seglog.Append(d, of(4097)...) }),
		disks("Recover", seglog.Recover),
		disks("Switch", func(d api.Disk) (api.Disk, api.Errno) { return seglog.Switch(d, "a") }),
		disks("Switch to none", func(d api.Disk) (api.Disk, api.Errno) { return seglog.Switch(d) }),
		disks("Switch to a long one", func(d api.Disk) (api.Disk, api.Errno) { return seglog.Switch(d, of(4097)...) }),
	}
	reads := func(say string, d api.Disk, want api.Errno) {
		l, why := seglog.Records(d)
		n, no := seglog.Free(d)
		m, nor := seglog.Size(d)
		if len(l)+n+m != 0 || why != want || no != want || nor != want {
			t.Errorf("%s: %q, %d and %d, errors %d, %d and %d, not %d", say, l, n, m, why, no, nor, want)
		}
	}
	for i, d := range wrongDisks() {
		for _, d := range []api.Disk{d, off(d)} {
			reads("disk "+strconv.Itoa(i), d, api.ErrForm)
			for _, c := range changes {
				if none, _, why := c.is(d); !none || why != api.ErrForm {
					t.Errorf("disk %d: %s: error %d, nothing beside it: %v", i, c.name, why, none)
				}
			}
		}
	}
	for say, b := range broken() {
		reads(say, b.d, b.why)
		for _, c := range changes {
			if _, same, why := c.is(b.d); !same || why != b.why {
				t.Errorf("%s: %s: error %d, not %d, as it was: %v", say, c.name, why, b.why, same)
			}
		}
	}
}

// 8.2

// step is one of the things that a call does to a disk.
type step func(api.Disk) (api.Disk, api.Errno)

func saved(epoch uint64, parts ...api.Part) step {
	return func(d api.Disk) (api.Disk, api.Errno) {
		return manifest.Save(d, api.Manifest{Epoch: epoch, Parts: parts})
	}
}

func written(seg int, tag uint64, at int, records ...string) step {
	return func(d api.Disk) (api.Disk, api.Errno) {
		e, _, why := segment.Write(d, seg, tag, at, records)
		return e, why
	}
}

// inTurn does steps up to the first error.
func inTurn(d api.Disk, steps ...step) (api.Disk, api.Errno) {
	for _, s := range steps {
		var why api.Errno
		if d, why = s(d); why != api.OK {
			return d, why
		}
	}
	return d, api.OK
}

// does holds a call against the steps that it has to do, with power for all of them and for some of them.
func does(t *testing.T, say string, d api.Disk, call step, steps ...step) {
	t.Helper()
	fuses := []int{-1}
	for fuse := range 12 {
		fuses = append(fuses, fuse)
	}
	for _, fuse := range fuses {
		want, no := inTurn(withFuse(d, fuse), steps...)
		if e, why := call(withFuse(d, fuse)); !sameDisk(e, want) || why != no {
			m, _ := manifest.Load(e)
			is, _ := manifest.Load(want)
			t.Errorf("%s, a fuse of %d: error %d, not %d; the manifest is %v, not %v", say, fuse, why, no, m, is)
		}
	}
}

func appends(records ...string) step {
	return func(d api.Disk) (api.Disk, api.Errno) { return seglog.Append(d, records...) }
}

func switches(records ...string) step {
	return func(d api.Disk) (api.Disk, api.Errno) { return seglog.Switch(d, records...) }
}

// tagOf is an epoch's tag, and kthTag its k-th one.
func tagOf(epoch uint64) uint64        { return 65536*epoch + 32768 }
func kthTag(epoch, k uint64) uint64    { return 65536*epoch + 256*k }
func isPart(p part, many int) api.Part { p.Many = many; return p.Part }

func TestAppendBehindTheOpenPart(t *testing.T) {
	a := closedPart(4, 2, "0")
	one, two, none := openPart(5, 7, "1", "2"), openPart(5, 7, of(100, 100)...), openPart(5, 7)
	half := openPart(5, 7, "1")
	half.behind = framesOf([]string{"2"})[:5]
	for _, c := range []struct {
		say     string
		open    part
		at      int
		records []string
	}{
		{"one record", one, 1, []string{"3"}},
		{"an empty one", one, 1, []string{""}},
		{"some", one, 1, []string{"3", "", "45"}},
		{"all that there is room for", one, 1, of(217 - 1)},
		{"behind two pages", two, 2, of(106)},
		{"into an empty one", none, 0, of(327)},
		{"behind half a record", half, 1, []string{"3"}},
	} {
		for _, epoch := range []uint64{6, 7, 1<<45 - 1, 1 << 45, api.MaxTag} {
			d := logOf(26, epoch, a, c.open)
			does(t, c.say, d, appends(c.records...), written(5, 7, c.at, c.records...))
			does(t, c.say+", with a cache", withPut(d, 3, zeros(128)), appends(c.records...), written(5, 7, c.at, c.records...))
		}
	}
	d, why := seglog.Append(logOf(26, 6, a, one), "3", "4")
	if why != api.OK {
		t.Fatalf("error %d", why)
	}
	has(t, "appended", d, []string{"0", "1", "2", "3", "4"}, 6)
}

func TestAppendIntoAnotherSegment(t *testing.T) {
	a, c := closedPart(0, 2, "0"), closedPart(1, 3, of(50, 60)...)
	one, full, none := openPart(5, 7, "1", "2"), openPart(2, 7, of(327)...), openPart(3, 7)
	half := openPart(2, 7, "1")
	half.behind = framesOf(of(300))[:300]
	next := func(seg int, epoch uint64) api.Part { return api.Part{Seg: seg, Tag: tagOf(epoch), Many: -1} }
	for _, s := range []struct {
		say     string
		parts   []part
		closed  []api.Part
		seg     int
		records []string
	}{
		{"the first one", nil, nil, 0, []string{"a"}},
		{"the first one, full at once", nil, nil, 0, of(327)},
		{"behind closed ones", []part{a, c}, []api.Part{a.Part, c.Part}, 2, []string{"a", "b"}},
		{"into a gap", []part{c, one}, []api.Part{c.Part, isPart(one, 2)}, 0, of(300)},
		{"no room for two pages", []part{a, openPart(5, 7, of(100, 100)...)}, []api.Part{a.Part, isPart(one, 2)}, 1, of(107)},
		{"no room at all", []part{a, full}, []api.Part{a.Part, isPart(full, 1)}, 1, []string{""}},
		{"no room behind half a record", []part{a, half}, []api.Part{a.Part, isPart(half, 1)}, 1, []string{""}},
		{"into the last one", []part{closedPart(0, 1), closedPart(6, 2, "a"), closedPart(1, 3), closedPart(5, 4), closedPart(3, 5), closedPart(4, 6, "b"), full},
			[]api.Part{{Seg: 0, Tag: 1}, {Seg: 6, Tag: 2, Many: 1}, {Seg: 1, Tag: 3}, {Seg: 5, Tag: 4}, {Seg: 3, Tag: 5}, {Seg: 4, Tag: 6, Many: 1}, isPart(full, 1)}, 7, of(327)},
	} {
		for _, epoch := range []uint64{1, 6, 7, 1<<45 - 2, 1<<45 - 1} {
			d := logOf(26, epoch, s.parts...)
			parts := append(slices.Clone(s.closed), next(s.seg, epoch+1))
			steps := []step{disk.Flush, saved(epoch+1, parts...), written(s.seg, tagOf(epoch+1), 0, s.records...)}
			does(t, s.say, d, appends(s.records...), steps...)
			does(t, s.say+", with a cache", withPut(d, 25, zeros(128)), appends(s.records...), steps...)
		}
	}
	if tagOf(3) != 229376 || kthTag(3, 2) != 197120 {
		t.Error("the test's tags are not the document's")
	}
	d := logOf(26, 6, c, none)
	does(t, "an empty open part has room", d, appends(of(327)...), written(3, 7, 0, of(327)...))
}

// An open part in which there is nothing can be full of half a record: it stays a part, closed with none.
func TestAppendBehindAPartOfHalfARecord(t *testing.T) {
	half := openPart(2, 7)
	half.behind = framesOf(of(600))[:330]
	d := logOf(26, 6, half)
	does(t, "half a record", d, appends("a"), disk.Flush, saved(7, isPart(half, 0), api.Part{Seg: 0, Tag: tagOf(7), Many: -1}), written(0, tagOf(7), 0, "a"))
	e, why := seglog.Append(d, "a")
	if why != api.OK {
		t.Fatalf("error %d", why)
	}
	has(t, "behind it", e, []string{"a"}, 6)
}

func TestAppendOfNothing(t *testing.T) {
	d := logOf(26, 6, closedPart(4, 2, "0"), openPart(5, 7, "1", "2"))
	for _, d := range []api.Disk{d, withFuse(d, 0), crowded(d, api.MaxCache), withPut(d, 24, zeros(128)), logOf(26, 1<<45), logOf(26, api.MaxTag)} {
		for _, l := range [][]string{nil, {}} {
			if e, why := seglog.Append(d, l...); !sameDisk(e, d) || why != api.OK {
				t.Errorf("error %d, as it was: %v", why, sameDisk(e, d))
			}
		}
	}
}

// crowdOf is a log of as many parts as may be, the last one open, with those records.
func crowdOf(epoch uint64, records ...string) api.Disk {
	var l []part
	for i := range 7 {
		l = append(l, closedPart(7-i, uint64(10+i), "c"))
	}
	return logOf(26, epoch, append(l, openPart(0, 90, records...))...)
}

func TestAppendRefuses(t *testing.T) {
	d := logOf(26, 6, closedPart(4, 2, "0"), openPart(5, 7, of(100, 100)...))
	for _, c := range []struct {
		say     string
		d       api.Disk
		records []string
		why     api.Errno
	}{
		{"a record too long", d, of(4097), api.ErrLong},
		{"a record too long behind others", d, of(1, 1, 4097), api.ErrLong},
		{"too many pages for a batch", d, of(4096, 4096, 4096, 1897), api.ErrLong},
		{"too long, and the epoch's end", logOf(26, 1<<45), of(4097), api.ErrLong},
		{"more pages than a segment has", d, of(328), api.ErrFull},
		{"more pages than a segment has, of some", d, of(100, 100, 100, 100), api.ErrFull},
		{"more pages than a segment has, an empty open one", logOf(26, 6, openPart(0, 7)), of(328), api.ErrFull},
		{"more pages than a segment has, a fuse of 0", withFuse(d, 0), of(328), api.ErrFull},
		{"no segment is free", crowdOf(6, of(100, 100)...), of(107), api.ErrFull},
		{"no segment is free, a full one", crowdOf(6, of(327)...), of(0), api.ErrFull},
		{"no segment is free, a fuse of 0", withFuse(crowdOf(6, of(327)...), 0), of(0), api.ErrFull},
		{"the epoch's end", logOf(26, 1<<45), of(1), api.ErrFull},
		{"the epoch's end, no room", logOf(26, 1<<45, openPart(0, 7, of(327)...)), of(0), api.ErrFull},
		{"the epoch's end, a fuse of 0", withFuse(logOf(26, 1<<45), 0), of(1), api.ErrFull},
		{"beyond the epoch's end", logOf(26, 1<<45+1), of(1), api.ErrFull},
		{"the greatest epoch", logOf(26, api.MaxTag), of(1), api.ErrFull},
		{"a full cache", crowded(d, api.MaxCache), of(1), api.ErrFull},
		{"a full cache, a fuse of 0", withFuse(crowded(d, api.MaxCache), 0), of(1), api.ErrFull},
	} {
		before, _ := seglog.Records(c.d)
		e, why := seglog.Append(c.d, c.records...)
		if after, _ := seglog.Records(e); !sameDisk(e, c.d) || why != c.why || !slices.Equal(after, before) {
			t.Errorf("%s: error %d, not %d, as it was: %v", c.say, why, c.why, sameDisk(e, c.d))
		}
	}
	does(t, "no segment is free, but there is room", crowdOf(6, of(100, 100)...), appends(of(106)...), written(0, 90, 2, of(106)...))
}

// A manifest that is made by hand may have tags that the next epoch's is not above: that is found when the next one is saved.
func TestTagsAheadOfTheEpoch(t *testing.T) {
	a := closedPart(3, tagOf(7), "a")
	d := withPut(logOf(26, 6, a), 20, zeros(128))
	does(t, "the same tag", d, appends("b"), disk.Flush, saved(7, a.Part, api.Part{Seg: 0, Tag: tagOf(7), Many: -1}))
	if e, why := seglog.Append(d, "b"); why != api.ErrForm || len(e.Cache) != 0 {
		t.Errorf("error %d, and %d writes in the cache", why, len(e.Cache))
	}
	b := openPart(3, tagOf(7)-1, of(327)...)
	does(t, "the tag ahead of it", logOf(26, 6, b), appends("b"), disk.Flush,
		saved(7, isPart(b, 1), api.Part{Seg: 0, Tag: tagOf(7), Many: -1}), written(0, tagOf(7), 0, "b"))
}

// A cache that gets full amid a batch has what went in.
func TestAppendIntoACacheThatGetsFull(t *testing.T) {
	d := crowded(logOf(42, 6, openPart(0, 7, "a")), api.MaxCache-1)
	does(t, "no room for the second page", d, appends(of(90, 90)...), written(0, 7, 1, of(90, 90)...))
	e, why := seglog.Append(d, of(90, 90)...)
	if why != api.ErrFull || len(e.Cache) != api.MaxCache {
		t.Errorf("error %d, %d writes", why, len(e.Cache))
	}
	full := crowded(logOf(26, 6, openPart(0, 7, of(327)...)), api.MaxCache)
	does(t, "a full cache is flushed ahead of another segment", full, appends("a"),
		disk.Flush, saved(7, api.Part{Seg: 0, Tag: 7, Many: 1}, api.Part{Seg: 1, Tag: tagOf(7), Many: -1}), written(1, tagOf(7), 0, "a"))
}

// 8.3

func TestRecoverClosesTheOpenPart(t *testing.T) {
	a, one, none := closedPart(4, 2, "0"), openPart(5, 7, "1", "2"), openPart(5, 7)
	half, halfOnly := openPart(5, 7, "1"), openPart(5, 7)
	half.behind, halfOnly.behind = framesOf(of(300))[:200], framesOf(of(300))[:200]
	empty := closedPart(3, 3)
	for _, c := range []struct {
		say   string
		parts []part
		want  []api.Part
	}{
		{"one", []part{one}, []api.Part{isPart(one, 2)}},
		{"behind a closed one", []part{a, one}, []api.Part{a.Part, isPart(one, 2)}},
		{"half a record behind", []part{a, half}, []api.Part{a.Part, isPart(half, 1)}},
		{"of none", []part{a, none}, []api.Part{a.Part}},
		{"of none, alone", []part{none}, nil},
		{"of half a record", []part{a, halfOnly}, []api.Part{a.Part}},
		{"a closed one of none stays", []part{a, empty, one}, []api.Part{a.Part, empty.Part, isPart(one, 2)}},
	} {
		for _, epoch := range []uint64{1, 6, 7, 1<<45 - 1, 1 << 45, 1<<45 + 1, api.MaxTag - 1, api.MaxTag} {
			d := logOf(26, epoch, c.parts...)
			does(t, c.say, d, seglog.Recover, disk.Flush, saved(epoch+1, c.want...))
			does(t, c.say+", with a cache", withPut(d, 24, zeros(128)), seglog.Recover, disk.Flush, saved(epoch+1, c.want...))
			before, _ := seglog.Records(d)
			e, why := seglog.Recover(d)
			if want := map[bool]api.Errno{true: api.ErrForm}[epoch == api.MaxTag]; why != want {
				t.Fatalf("%s, epoch %d: error %d", c.say, epoch, why)
			}
			if epoch < api.MaxTag {
				has(t, c.say, e, before, 8-len(c.want))
			}
		}
	}
}

func TestRecoverWithoutAnOpenPart(t *testing.T) {
	for _, parts := range [][]part{nil, {closedPart(4, 2, "0")}, {closedPart(4, 2, "0"), closedPart(2, 3)}} {
		for _, epoch := range []uint64{1, 6, 1 << 45, api.MaxTag} {
			d := logOf(26, epoch, parts...)
			does(t, "no open part", d, seglog.Recover, disk.Flush)
			does(t, "no open part, with a cache", withPut(crowded(d, api.MaxCache-1), 24, zeros(128)), seglog.Recover, disk.Flush)
		}
	}
}

func TestRecoverFlushes(t *testing.T) {
	d := withPut(logOf(26, 6, openPart(3, 5, "a")), 12, pagesOf(6, []string{"b"}, "")[0])
	e, why := seglog.Recover(d)
	if why != api.OK || len(e.Cache) != 0 {
		t.Fatalf("error %d, %d writes in the cache", why, len(e.Cache))
	}
	e, _ = disk.Crash(e, nil, -1, 0)
	has(t, "behind a crash", e, []string{"a", "b"}, 7)
}

func TestExample(t *testing.T) {
	d, _ := seglog.Format(26)
	d, why := seglog.Append(d, "a")
	if m, _ := manifest.Load(d); why != api.OK || !sameManifest(m, api.Manifest{Epoch: 2, Parts: []api.Part{{Seg: 0, Tag: 163840, Many: -1}}}) {
		t.Errorf("%v, error %d", m, why)
	}
	has(t, "appended", d, []string{"a"}, 7)
	d, why = seglog.Recover(d)
	if why != api.OK {
		t.Errorf("Recover: error %d", why)
	}
	has(t, "recovered", d, []string{"a"}, 7)
	d, why = seglog.Append(d, "b")
	if m, _ := manifest.Load(d); why != api.OK || !sameManifest(m, api.Manifest{Epoch: 4, Parts: []api.Part{{Seg: 0, Tag: 163840, Many: 1}, {Seg: 1, Tag: 294912, Many: -1}}}) {
		t.Errorf("%v, error %d", m, why)
	}
	has(t, "in another segment", d, []string{"a", "b"}, 6)
}

// 8.4

func TestSwitchLaysBatchesIntoFreeSegments(t *testing.T) {
	a, b := closedPart(0, 2, "0"), openPart(2, 7, "1", "2")
	for _, c := range []struct {
		say     string
		batches [][]string
	}{
		{"none", nil},
		{"one record", [][]string{{"x"}}},
		{"an empty one", [][]string{{""}}},
		{"some", [][]string{{"x", "", "yz", "x"}}},
		{"a segment, full", [][]string{of(327)}},
		{"a segment, full of some", [][]string{of(106, 106, 106)}},
		{"a byte too many", [][]string{of(106, 106), of(107)}},
		{"a record beyond", [][]string{of(106, 106, 106), {""}}},
		{"short ones behind long ones", [][]string{of(327), {"a", "b", "c"}, of(327), {""}}},
		{"one that went ahead, if order were none", [][]string{of(200), append(of(200), "a"), of(327)}},
		{"empty ones", [][]string{slices.Repeat([]string{""}, 66), slices.Repeat([]string{""}, 66), slices.Repeat([]string{""}, 3)}},
		{"as many as there are", [][]string{of(200), of(201), of(202), of(203), of(204), append(of(205), "a")}},
	} {
		all := slices.Concat(c.batches...)
		for _, epoch := range []uint64{1, 6, 7, 1<<45 - 1} {
			var steps []step
			var parts []api.Part
			for k, l := range c.batches {
				p := api.Part{Seg: []int{1, 3, 4, 5, 6, 7}[k], Tag: kthTag(epoch+1, uint64(k)), Many: len(l)}
				parts = append(parts, p)
				steps = append(steps, written(p.Seg, p.Tag, 0, l...))
			}
			steps = append(steps, disk.Flush, saved(epoch+1, parts...))
			d := logOf(26, epoch, a, b)
			does(t, c.say, d, switches(all...), steps...)
			does(t, c.say+", with a cache", withPut(d, 24, zeros(128)), switches(all...), steps...)
			e, why := seglog.Switch(d, all...)
			if why != api.OK {
				t.Fatalf("%s: error %d", c.say, why)
			}
			has(t, c.say, e, all, 8-len(parts))
		}
	}
}

// Tags made by hand that are above the next epoch's are no matter: none of their parts is left.
func TestSwitchAwayFromTagsAhead(t *testing.T) {
	d := logOf(26, 6, closedPart(3, api.MaxTag, "a"))
	does(t, "tags ahead", d, switches("b"), written(0, kthTag(7, 0), 0, "b"), disk.Flush, saved(7, api.Part{Seg: 0, Tag: kthTag(7, 0), Many: 1}))
}

func TestSwitchOfTheGreatestDisk(t *testing.T) {
	d, _ := seglog.Format(api.MaxSectors)
	var all []string
	for range 8 {
		all = append(all, of(4096, 4096, 4096, 1785)...)
	}
	e, why := seglog.Switch(d, all...)
	if why != api.OK {
		t.Fatalf("error %d", why)
	}
	has(t, "all segments, full", e, all, 0)
	if f, why := seglog.Switch(d, append(all, "")...); !sameDisk(f, d) || why != api.ErrFull {
		t.Errorf("a record more: error %d", why)
	}
	if f, why := seglog.Switch(e, "a"); !sameDisk(f, e) || why != api.ErrFull {
		t.Errorf("none free: error %d", why)
	}
	f, why := seglog.Switch(e)
	if why != api.OK {
		t.Fatalf("to nothing: error %d", why)
	}
	has(t, "to nothing", f, nil, 8)
}

func TestSwitchRefuses(t *testing.T) {
	d := logOf(26, 6, closedPart(4, 2, "0"), openPart(5, 7, of(100, 100)...))
	seven := slices.Repeat(of(327), 7)
	for _, c := range []struct {
		say     string
		d       api.Disk
		records []string
		why     api.Errno
	}{
		{"a record too long", d, of(4097), api.ErrLong},
		{"too long behind one of too many pages", d, of(328, 4097), api.ErrLong},
		{"too long, no segment free", crowdOf(6, "a"), of(4097), api.ErrLong},
		{"too long, the epoch's end", logOf(26, 1<<45), of(1, 4097), api.ErrLong},
		{"too long, a fuse of 0", withFuse(d, 0), of(4097), api.ErrLong},
		{"more pages than a segment has", d, of(328), api.ErrFull},
		{"more pages than a segment has, behind others", d, of(1, 1, 4096, 1), api.ErrFull},
		{"the epoch's end", logOf(26, 1<<45), of(1), api.ErrFull},
		{"the epoch's end, of nothing", logOf(26, 1<<45), nil, api.ErrFull},
		{"beyond the epoch's end", logOf(26, 1<<45+1), nil, api.ErrFull},
		{"the greatest epoch", logOf(26, api.MaxTag), nil, api.ErrFull},
		{"more batches than free segments", d, seven, api.ErrFull},
		{"more batches, a fuse of 0", withFuse(d, 0), seven, api.ErrFull},
		{"far more", d, slices.Repeat(of(4, 5), 5000), api.ErrFull},
		{"no segment is free", crowdOf(6, "a"), of(1), api.ErrFull},
		{"a full cache", crowded(d, api.MaxCache), of(1), api.ErrFull},
	} {
		if e, why := seglog.Switch(c.d, c.records...); !sameDisk(e, c.d) || why != c.why {
			t.Errorf("%s: error %d, not %d, as it was: %v", c.say, why, c.why, sameDisk(e, c.d))
		}
	}
	does(t, "to nothing, no segment free", crowdOf(6, "a"), switches(), disk.Flush, saved(7))
}

// Only the whole log's batch is too long for one segment's pages: a switch goes on into others.
func TestSwitchToMoreThanABatchMayHave(t *testing.T) {
	d, _ := seglog.Format(api.MaxSectors)
	all := slices.Repeat(of(4000), 12)
	if _, why := segment.Need(all); why != api.ErrLong {
		t.Fatalf("Need: error %d", why)
	}
	e, why := seglog.Switch(d, all...)
	if why != api.OK {
		t.Fatalf("error %d", why)
	}
	has(t, "twelve long ones", e, all, 4)
}

// 8.5

// lived is a disk whose texts are each in memory of their own.
func lived() api.Disk {
	d := logOf(26, 6, closedPart(4, 2, "0"), openPart(5, 7, of(100, 100)...))
	for i := range d.Sectors {
		d.Sectors[i] = strings.Clone(d.Sectors[i])
	}
	return withPut(d, 24, zeros(128))
}

// changed are the disks that all sorts of calls answer.
func changed(d api.Disk) []api.Disk {
	var l []api.Disk
	for _, d := range []api.Disk{d, withFuse(d, 1), withFuse(d, 3), off(d)} {
		for _, records := range [][]string{of(1), of(200), of(400), nil, of(4097)} {
			a, _ := seglog.Append(d, records...)
			b, _ := seglog.Switch(d, records...)
			l = append(l, a, b)
		}
		c, _ := seglog.Recover(d)
		l = append(l, c)
	}
	return l
}

// texts are all texts of a disk.
func texts(d api.Disk) []string {
	l := slices.Clone(d.Sectors)
	for _, p := range d.Cache {
		l = append(l, p.Data)
	}
	return l
}

func TestDisksAreNewMemory(t *testing.T) {
	d, was := lived(), lived()
	told, again := append(changed(d), changed(d)...), changed(was)
	at := map[*byte]int{}
	for i, e := range append(slices.Clone(told), d) {
		for _, s := range texts(e) {
			if by, is := at[unsafe.StringData(s)]; is {
				t.Fatalf("answers %d and %d share a text", by, i)
			}
			at[unsafe.StringData(s)] = i
		}
	}
	for i, e := range told {
		clear(e.Sectors[:cap(e.Sectors)])
		clear(e.Cache[:cap(e.Cache)])
		if !sameDisk(d, was) {
			t.Fatalf("answer %d shares memory with an argument", i)
		}
		for k, later := range told[i+1:] {
			if !sameDisk(later, again[(i+1+k)%len(again)]) {
				t.Fatalf("answer %d shares memory with another one", i)
			}
		}
	}
}

func TestRecordsAreNewMemory(t *testing.T) {
	d := lived()
	a, _ := seglog.Records(d)
	b, _ := seglog.Records(d)
	for i := range a {
		if unsafe.StringData(a[i]) == unsafe.StringData(b[i]) {
			t.Errorf("two answers share the record %d", i)
		}
	}
	clear(a[:cap(a)])
	if !slices.Equal(b, append([]string{"0"}, of(100, 100)...)) {
		t.Error("two answers share their list")
	}
}

// What is handed in stays as it is, and so does the room behind it, which is the caller's.
func TestWhatIsHandedInIsLeftAlone(t *testing.T) {
	d, records := lived(), append(make([]string, 0, 5), "a", "bc")
	d.Cache = append(make([]api.Put, 0, 9), d.Cache...)
	d.Sectors = append(make([]string, 0, 40), d.Sectors...)
	changed(d)
	seglog.Append(d, records...)
	seglog.Switch(d, records...)
	seglog.Records(d)
	seglog.Free(d)
	seglog.Size(d)
	if !sameDisk(d, lived()) || !slices.Equal(records, []string{"a", "bc"}) {
		t.Error("what was handed in has changed")
	}
	if !slices.Equal(records[:5][2:], make([]string, 3)) || !slices.Equal(d.Cache[:9][1:], make([]api.Put, 8)) || !slices.Equal(d.Sectors[:40][26:], make([]string, 14)) {
		t.Error("there is something in the room behind what was handed in")
	}
}

// 8.6, 8.7

// player plays a log on a disk that loses its power, beside what it has to have: all is what the log has while the power is there; of these the first sure ones are on the disk for good; other, if there is one, is what a switch that was cut off had.
type player struct {
	t     *testing.T
	say   string
	d     api.Disk
	all   []string
	sure  int
	other *[]string
}

func (w *player) epoch() uint64 {
	m, _ := manifest.Load(w.d)
	return m.Epoch
}

// holds holds the log against what it has to be while the power is there.
func (w *player) holds() {
	w.t.Helper()
	if l, why := seglog.Records(w.d); !slices.Equal(l, w.all) || why != api.OK {
		w.t.Fatalf("%s: the records are %.300q, not %.300q, error %d", w.say, l, w.all, why)
	}
}

// refused tells whether a call was refused for want of room, and holds it against 8.7 then.
func (w *player) refused(e api.Disk, why api.Errno) bool {
	w.t.Helper()
	if why == api.ErrFull && !sameDisk(e, w.d) {
		w.t.Fatalf("%s: what was refused has changed the disk", w.say)
	}
	if why != api.OK && why != api.ErrFull && why != api.ErrPower {
		w.t.Fatalf("%s: error %d", w.say, why)
	}
	return why == api.ErrFull
}

func (w *player) append(l []string) {
	w.t.Helper()
	was, epoch := len(w.all), w.epoch()
	e, why := seglog.Append(w.d, l...)
	if w.refused(e, why) {
		return
	}
	w.d, w.all = e, slices.Concat(w.all, l)
	if why == api.OK && w.epoch() > epoch {
		w.sure = was
	}
	if why == api.OK {
		w.holds()
	}
}

func (w *player) flush() {
	e, why := disk.Flush(w.d)
	if w.d = e; why == api.OK {
		w.sure = len(w.all)
	}
}

func (w *player) change(l []string) {
	w.t.Helper()
	e, why := seglog.Switch(w.d, l...)
	if w.refused(e, why) {
		return
	}
	w.d = e
	if why == api.OK {
		w.all, w.sure = l, len(l)
		w.holds()
		return
	}
	w.other = &l
}

// crash has the power go and come, and finds out what is there of what may be.
func (w *player) crash(keep []bool, torn, bytes int) {
	w.t.Helper()
	w.d, _ = disk.Crash(w.d, keep, torn, bytes)
	l, why := seglog.Records(w.d)
	isPrefix := len(l) >= w.sure && len(l) <= len(w.all) && slices.Equal(l, w.all[:min(len(l), len(w.all))])
	isOther := w.other != nil && slices.Equal(l, *w.other)
	if why != api.OK || !isPrefix && !isOther {
		w.t.Fatalf("%s: behind a crash the records are %.300q, of %.300q, %d of them sure, error %d", w.say, l, w.all, w.sure, why)
	}
	w.all, w.sure, w.other = l, len(l), nil
}

// recover asks for a recovery with so much power, and tells whether it was enough. It changes no record.
func (w *player) recover(fuse int) bool {
	w.t.Helper()
	e, why := seglog.Recover(withFuse(w.d, fuse))
	if why != api.OK && why != api.ErrPower {
		w.t.Fatalf("%s: Recover: error %d", w.say, why)
	}
	w.d = e
	if why == api.OK {
		w.d.Fuse = -1
		w.holds()
	}
	return why == api.OK
}

// someRecords are some records, long ones and short ones, hardly two of them alike.
func someRecords(r *rand.Rand, most, bytes int) []string {
	var l []string
	for range r.Intn(most + 1) {
		l = append(l, strconv.Itoa(r.Int())[:1+r.Intn(8)]+strings.Repeat("r", r.Intn(1+bytes)))
	}
	return l
}

func someKeep(r *rand.Rand, many int) []bool {
	keep := make([]bool, many)
	for i := range keep {
		keep[i] = r.Intn(3) != 0
	}
	return keep
}

// A log is played by chance: appended, flushed, switched, the power going at any time, in a recovery, too.
func TestPlayed(t *testing.T) {
	for seed := range 600 {
		r := rand.New(rand.NewSource(int64(seed)))
		d, why := seglog.Format(10 + r.Intn(40))
		if why != api.OK {
			t.Fatalf("Format: error %d", why)
		}
		w := player{t: t, say: "seed " + strconv.Itoa(seed), d: d}
		bytes := []int{5, 40, 150, 300}[r.Intn(4)]
		for range 40 {
			if r.Intn(3) == 0 && !w.d.Off {
				w.d.Fuse = r.Intn(14) - 1
			}
			switch r.Intn(8) {
			case 0, 1, 2, 3:
				w.append(someRecords(r, 4, bytes))
			case 4:
				w.flush()
			case 5:
				w.change(someRecords(r, 12, bytes))
			case 6:
				w.crash(someKeep(r, len(w.d.Cache)), r.Intn(len(w.d.Cache)+1)-1, r.Intn(130))
				for !w.recover(r.Intn(6) - 1) {
					w.crash(someKeep(r, len(w.d.Cache)), r.Intn(len(w.d.Cache)+1)-1, r.Intn(130))
				}
			}
			for w.d.Off {
				w.crash(someKeep(r, len(w.d.Cache)), r.Intn(len(w.d.Cache)+1)-1, r.Intn(130))
				w.recover(r.Intn(6) - 1)
			}
		}
	}
}

// script plays one log in which each thing that a call does comes to be, as far as the power lasts.
func (w *player) script() {
	for _, do := range []func(){
		func() { w.append([]string{"a", "b"}) },
		func() { w.append(of(60, 70, 20)) },
		w.flush,
		func() { w.append([]string{"c"}) },
		func() { w.append(of(180, 3)) },
		func() { w.change([]string{"x", strings.Repeat("y", 200), "z"}) },
		func() { w.append([]string{"d", "e"}) },
		func() { w.change(of(100, 100, 100, 100)) },
		func() { w.change(nil) },
		func() { w.append([]string{"f"}) },
	} {
		if !w.d.Off {
			do()
		}
	}
}

// One script is cut off at each write and flush, with each of the writes in the cache torn, the others kept or not; the recovery behind it is cut off, too.
func TestCutOffAnywhere(t *testing.T) {
	cut := player{d: off(api.Disk{})}
	for fuse := 0; cut.d.Off; fuse++ {
		d, _ := seglog.Format(28)
		cut = player{t: t, say: "a fuse of " + strconv.Itoa(fuse), d: withFuse(d, fuse)}
		cut.script()
		many := len(cut.d.Cache)
		for torn := -1; torn < many; torn++ {
			for _, bytes := range []int{0, 7, 8, 60, 120, 127, 128} {
				for kept := range 1 << min(many, 4) {
					keep := make([]bool, many)
					for i := range keep {
						keep[i] = kept>>(i%4)&1 == 1
					}
					w := cut
					w.crash(keep, torn, bytes)
					for again := range 3 {
						w.cutRecovery(again)
					}
				}
			}
		}
	}
}

// cutRecovery cuts a recovery off, recovers, and appends; the player stays as it is.
func (w player) cutRecovery(fuse int) {
	w.t.Helper()
	if !w.recover(fuse) {
		w.crash([]bool{fuse%2 == 0}, 0, 100)
		if !w.recover(-1) {
			w.t.Fatalf("%s: no recovery with all the power", w.say)
		}
	}
	w.append([]string{"behind"})
	w.flush()
	w.crash(nil, -1, 0)
	if l := w.all; len(l) == 0 || l[len(l)-1] != "behind" {
		w.t.Fatalf("%s: what was appended behind a recovery, and flushed, is gone: %.300q", w.say, l)
	}
}

// A switch that was cut off is asked again, by the same tags, over what it left behind.
func TestSwitchedAgain(t *testing.T) {
	for fuse := range 6 {
		d := withFuse(logOf(26, 6, closedPart(2, 5, "a", "b")), fuse)
		w := player{t: t, say: "a fuse of " + strconv.Itoa(fuse), d: d, all: []string{"a", "b"}, sure: 2}
		w.change([]string{"u", strings.Repeat("v", 250), "w"})
		w.crash([]bool{true, true, true, false}, 3, 50)
		if !w.recover(-1) {
			t.Fatal("no recovery")
		}
		w.change([]string{"x"})
		w.crash(nil, -1, 0)
		if !slices.Equal(w.all, []string{"x"}) {
			t.Fatalf("%s: %q", w.say, w.all)
		}
	}
}

// A log is appended to until there is no room, and emptied, and filled again.
func TestFull(t *testing.T) {
	for _, sectors := range []int{10, 17, 18, 26, 50} {
		d, _ := seglog.Format(sectors)
		w := player{t: t, say: strconv.Itoa(sectors) + " sectors", d: d}
		long, _ := segment.Long(d)
		for round := range 3 {
			many := 0
			for ; ; many++ {
				was := w.d
				if w.append([]string{"r" + strconv.Itoa(round) + "." + strconv.Itoa(many)}); sameDisk(was, w.d) {
					break
				}
			}
			if many != 8*long {
				t.Fatalf("%s: there was room for %d pages, not %d", w.say, many, 8*long)
			}
			has(t, w.say, w.d, w.all, 0)
			was := w.d
			if w.change([]string{"a"}); !sameDisk(was, w.d) {
				t.Fatalf("%s: switched into no free segment", w.say)
			}
			w.change(nil)
			has(t, w.say+", emptied", w.d, nil, 8)
		}
	}
}

// P1, P3, P4

// Anything that may be in the sectors comes to an answer, and beside an error of a right disk that is as it was.
func FuzzAnyDisk(f *testing.F) {
	one := logOf(10, 6, closedPart(4, 2, "0"), openPart(5, 7, "1"))
	f.Add(one.Sectors[0], one.Sectors[6], 10, -1, false, "a")
	f.Add(zeros(128), zeros(128), 26, 0, false, "")
	f.Add(one.Sectors[0], one.Sectors[7], 9, 3, true, strings.Repeat("z", 5000))
	f.Add(logOf(10, api.MaxTag, openPart(7, api.MaxTag, "1")).Sectors[0], "", 30, 2, false, "")
	f.Fuzz(func(t *testing.T, first, other string, sectors, fuse int, isOff bool, record string) {
		d := made(min(max(sectors, 0), 60))
		for i := range d.Sectors {
			d.Sectors[i] = other
		}
		if len(d.Sectors) > 0 {
			d.Sectors[0] = first
		}
		d.Fuse, d.Off = fuse, isOff
		l, no := seglog.Records(d)
		n, why := seglog.Free(d)
		if why != no || no != api.OK && len(l)+n != 0 {
			t.Fatalf("%q and %d, errors %d and %d", l, n, no, why)
		}
		for _, call := range []step{appends(record), appends(record, "", record), seglog.Recover, switches(record), switches()} {
			e, why := call(d)
			if is := disk.Check(d); is != api.OK && (why != is || !noDisk(e)) || is == api.OK && disk.Check(e) != api.OK {
				t.Fatalf("error %d, and the disk's is %d", why, is)
			}
			if no != api.OK && why != no || no != api.OK && disk.Check(d) == api.OK && !sameDisk(e, d) {
				t.Fatalf("error %d, and the records' is %d", why, no)
			}
		}
	})
}

// Nil and empty lists are alike, and a call that is asked again answers the same.
func TestAnswersHangOnArgumentsAlone(t *testing.T) {
	for _, cache := range [][]api.Put{nil, {}, make([]api.Put, 0, 7)} {
		d := logOf(26, 6, closedPart(4, 2, "0"), openPart(5, 7, of(100, 100)...))
		want := changed(d)
		d.Cache = cache
		for i, e := range changed(d) {
			if !sameDisk(e, want[i]) {
				t.Fatalf("answer %d is another one", i)
			}
		}
	}
}

func TestNoGoroutineIsLeft(t *testing.T) {
	before := runtime.NumGoroutine()
	d, _ := seglog.Format(26)
	d, _ = seglog.Append(d, "a", "b")
	d, _ = seglog.Switch(d, "c")
	d, _ = seglog.Recover(d)
	seglog.Records(d)
	seglog.Free(d)
	seglog.Size(d)
	if after := runtime.NumGoroutine(); after > before {
		t.Errorf("%d goroutines, and %d ahead of the calls", after, before)
	}
}
