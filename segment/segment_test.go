package segment_test

import (
	"encoding/binary"
	"hash/crc32"
	"math"
	"math/rand"
	"runtime"
	"slices"
	"strings"
	"testing"
	"unsafe"

	"spoor/api"
	"spoor/disk"
	"spoor/segment"
)

// The calls have the signatures of doc/07-segment.md.
var (
	_ func(api.Disk) (int, api.Errno)                                       = segment.Long
	_ func([]string) (int, api.Errno)                                       = segment.Need
	_ func(api.Disk, int, uint64, int, []string) (api.Disk, int, api.Errno) = segment.Write
	_ func(api.Disk, int, uint64) ([]string, int, api.Errno)                = segment.Scan
	_ func(api.Disk, int, uint64, int) ([]string, api.Errno)                = segment.Take
)

func zeros(many int) string {
	return strings.Repeat("\x00", many)
}

// plainFrame is a record's frame by the document's words, as long as it may be.
func plainFrame(s string) string {
	b := binary.AppendUvarint(nil, uint64(len(s)))
	b = binary.BigEndian.AppendUint32(b, crc32.Checksum([]byte(s), crc32.MakeTable(crc32.Castagnoli)))
	return string(b) + s
}

func plainFrames(records ...string) string {
	text := ""
	for _, r := range records {
		text += plainFrame(r)
	}
	return text
}

// plainPage is a page by the document's words.
func plainPage(tag uint64, data string) string {
	end := string(binary.BigEndian.AppendUint64(nil, tag))
	return end + string([]byte{byte(len(data))}) + data + zeros(111-len(data)) + end
}

// plainPages are a text's pages by the document's words.
func plainPages(tag uint64, text string) []string {
	var l []string
	for text != "" {
		many := min(len(text), 111)
		l = append(l, plainPage(tag, text[:many]))
		text, tag = text[many:], tag+1
	}
	return l
}

// made is a disk of so many zero sectors.
func made(sectors int) api.Disk {
	return api.Disk{Sectors: slices.Repeat([]string{zeros(128)}, sectors), Fuse: -1}
}

// withSegment is d with those sectors from the first one of a segment on; what lies behind the segment's end is the next one's.
func withSegment(d api.Disk, seg int, sectors ...string) api.Disk {
	d.Sectors = slices.Clone(d.Sectors)
	copy(d.Sectors[2+seg*((len(d.Sectors)-2)/8):], sectors)
	return d
}

// withPuts is d with those sectors written from one on, behind what is in its cache.
func withPuts(d api.Disk, at int, sectors ...string) api.Disk {
	d.Cache = slices.Clone(d.Cache)
	for i, s := range sectors {
		d.Cache = append(d.Cache, api.Put{At: at + i, Data: s})
	}
	return d
}

// crowded is d with so many writes in its cache, all of them at the first sector.
func crowded(d api.Disk, many int) api.Disk {
	d.Cache = slices.Repeat([]api.Put{{At: 0, Data: strings.Repeat("c", 128)}}, many)
	return d
}

func withFuse(d api.Disk, fuse int) api.Disk {
	d.Fuse = fuse
	return d
}

func off(d api.Disk) api.Disk {
	d.Off = true
	return d
}

func sameDisk(a, b api.Disk) bool {
	return slices.Equal(a.Sectors, b.Sectors) && slices.Equal(a.Cache, b.Cache) && a.Fuse == b.Fuse && a.Off == b.Off
}

func noDisk(d api.Disk) bool {
	return len(d.Sectors)+len(d.Cache) == 0 && d.Fuse == 0 && !d.Off
}

// wrongDisks are not right.
func wrongDisks() []api.Disk {
	short, long := made(26), made(26)
	short.Sectors[25], long.Sectors[0] = zeros(127), zeros(129)
	return []api.Disk{
		{}, {Fuse: -1}, short, long, withFuse(made(26), -2), withFuse(made(9), math.MinInt), withPuts(made(26), 26, zeros(128)),
		withPuts(made(26), -1, zeros(128)), withPuts(made(26), 3, zeros(128), ""), made(1025),
		crowded(made(26), api.MaxCache+1),
	}
}

// 7.1

func TestLongIsAnEighthOfWhatIsBehindTwo(t *testing.T) {
	for sectors := 1; sectors <= api.MaxSectors; sectors++ {
		want, no := 0, api.ErrRange
		for 2+8*(want+1) <= sectors {
			want, no = want+1, api.OK
		}
		if n, why := segment.Long(made(sectors)); n != want || why != no {
			t.Errorf("%d sectors: %d, error %d", sectors, n, why)
		}
	}
	for _, c := range [][2]int{{10, 1}, {17, 1}, {18, 2}, {25, 2}, {26, 3}, {1017, 126}, {1018, 127}, {1024, 127}} {
		if n, why := segment.Long(made(c[0])); n != c[1] || why != api.OK {
			t.Errorf("%d sectors: %d, error %d", c[0], n, why)
		}
	}
}

// What a segment is hangs on how many sectors there are alone: not on power, or on what is written.
func TestLongOfADiskWithoutPower(t *testing.T) {
	for _, d := range []api.Disk{off(made(26)), withFuse(made(26), 0), crowded(made(26), api.MaxCache)} {
		if n, why := segment.Long(d); n != 3 || why != api.OK {
			t.Errorf("%d, error %d", n, why)
		}
	}
	if n, why := segment.Long(off(made(9))); n != 0 || why != api.ErrRange {
		t.Errorf("without power, of nine sectors: %d, error %d", n, why)
	}
}

func TestDisksThatAreNotRight(t *testing.T) {
	for i, d := range wrongDisks() {
		for _, d := range []api.Disk{d, off(d)} {
			if n, why := segment.Long(d); n != 0 || why != api.ErrForm {
				t.Errorf("disk %d: Long: %d, error %d", i, n, why)
			}
			for _, seg := range []int{0, 3, -1, 8} {
				if e, at, why := segment.Write(d, seg, 0, -1, []string{strings.Repeat("l", 5000)}); !noDisk(e) || at != 0 || why != api.ErrForm {
					t.Errorf("disk %d: Write: %v, %d, error %d", i, e, at, why)
				}
				if l, n, why := segment.Scan(d, seg, 5); len(l) != 0 || n != 0 || why != api.ErrForm {
					t.Errorf("disk %d: Scan: %q, %d, error %d", i, l, n, why)
				}
				if l, why := segment.Take(d, seg, 5, -1); len(l) != 0 || why != api.ErrForm {
					t.Errorf("disk %d: Take: %q, error %d", i, l, why)
				}
			}
		}
	}
}

// A disk of too few sectors is told of ahead of all that is asked of it, with nothing beside it.
func TestDisksWithoutSegments(t *testing.T) {
	for sectors := 1; sectors < 10; sectors++ {
		for _, d := range []api.Disk{made(sectors), off(made(sectors)), withFuse(made(sectors), 0), crowded(made(sectors), api.MaxCache)} {
			for _, seg := range []int{0, 7, -1} {
				if e, at, why := segment.Write(d, seg, 5, 0, []string{"a"}); !noDisk(e) || at != 0 || why != api.ErrRange {
					t.Errorf("%d sectors: Write: %v, %d, error %d", sectors, e, at, why)
				}
				if l, n, why := segment.Scan(d, seg, 5); len(l) != 0 || n != 0 || why != api.ErrRange {
					t.Errorf("%d sectors: Scan: %q, %d, error %d", sectors, l, n, why)
				}
				if l, why := segment.Take(d, seg, 5, 1); len(l) != 0 || why != api.ErrRange {
					t.Errorf("%d sectors: Take: %q, error %d", sectors, l, why)
				}
			}
		}
	}
}

// of are records of so many bytes each.
func of(sizes ...int) []string {
	var l []string
	for i, n := range sizes {
		l = append(l, strings.Repeat(string(rune('a'+i%26)), n))
	}
	return l
}

func TestNeedIsHowManyPages(t *testing.T) {
	for _, c := range []struct {
		records []string
		want    int
	}{
		{nil, 0}, {[]string{}, 0}, {of(0), 1}, {of(1), 1}, {of(105), 1}, {of(106), 1}, {of(107), 2}, {of(106, 0), 2}, {of(101, 0), 1}, {of(102, 0), 2},
		{of(127), 2}, {of(128), 2}, {of(216), 2}, {of(217), 3}, {of(4096), 37}, {slices.Repeat([]string{""}, 22), 1}, {slices.Repeat([]string{""}, 23), 2},
		{of(4096, 4096, 4096, 1785), 127}, {of(4096, 4096, 4096, 1786), 128}, {of(4096, 4096, 4096, 1896), 128}, {slices.Repeat([]string{""}, 2841), 128},
	} {
		if n := len(plainPages(1, plainFrames(c.records...))); n != c.want {
			t.Fatalf("the test counts %d pages, and says %d", n, c.want)
		}
		if n, why := segment.Need(c.records); n != c.want || why != api.OK {
			t.Errorf("%d records: %d pages, not %d, error %d", len(c.records), n, c.want, why)
		}
	}
}

func TestNeedRefusesWhatIsTooLong(t *testing.T) {
	for say, l := range map[string][]string{
		"a record":                 of(4097),
		"a record behind others":   of(0, 4096, 4097),
		"a record ahead of others": of(4097, 1, 1),
		"a great record":           of(1 << 20),
		"a byte beyond 128 pages":  of(4096, 4096, 4096, 1897),
		"a record beyond them":     of(4096, 4096, 4096, 1896, 0),
		"many empty ones":          slices.Repeat([]string{""}, 2842),
		"many great ones":          slices.Repeat(of(4096), 100000),
	} {
		if n, why := segment.Need(l); n != 0 || why != api.ErrLong {
			t.Errorf("%s: %d, error %d", say, n, why)
		}
		if e, at, why := segment.Write(made(1024), 0, 5, 0, l); !sameDisk(e, made(1024)) || at != 0 || why != api.ErrLong {
			t.Errorf("%s: Write: %d, error %d", say, at, why)
		}
	}
}

// 7.2

// batches are records that go into segments of three sectors, or of fewer.
func batches() [][]string {
	return [][]string{nil, {}, {""}, {"a"}, {"a", "", "bc"}, of(106), of(106, 0), of(106, 106, 106), of(327), of(50, 60, 70, 80), slices.Repeat([]string{""}, 66)}
}

func TestWriteIsThePagesInTheCache(t *testing.T) {
	before := withPuts(made(26), 4, plainPage(9, "elder"), plainPage(8, "elder"))
	for _, d := range []api.Disk{made(26), made(33), withFuse(made(26), 50), before} {
		for seg := range api.MaxSegs {
			for _, tag := range []uint64{1, 5, 255, 65536, api.MaxTag - 1, api.MaxTag} {
				for at := range 4 {
					for _, l := range batches() {
						pages := plainPages(tag+uint64(at), plainFrames(l...))
						if at+len(pages) > 3 {
							continue
						}
						want := withPuts(d, 2+3*seg+at, pages...)
						if d.Fuse > 0 {
							want.Fuse -= len(pages)
						}
						if e, to, why := segment.Write(d, seg, tag, at, l); !sameDisk(e, want) || to != at+len(pages) || why != api.OK {
							t.Fatalf("segment %d, tag %d, place %d, %d records: %d, error %d", seg, tag, at, len(l), to, why)
						}
					}
				}
			}
		}
	}
}

func TestExample(t *testing.T) {
	if n, why := segment.Long(made(10)); n != 1 || why != api.OK {
		t.Errorf("Long: %d, error %d", n, why)
	}
	e, at, why := segment.Write(made(10), 3, 7, 0, []string{"a"})
	if want := withPuts(made(10), 5, plainPage(7, plainFrame("a"))); !sameDisk(e, want) || at != 1 || why != api.OK {
		t.Errorf("%v, %d, error %d", e, at, why)
	}
}

func TestTheLongestSegment(t *testing.T) {
	l := of(4096, 4096, 4096, 1785)
	for _, seg := range []int{0, 7} {
		e, at, why := segment.Write(made(1024), seg, 5, 0, l)
		if want := withPuts(made(1024), 2+127*seg, plainPages(5, plainFrames(l...))...); !sameDisk(e, want) || at != 127 || why != api.OK {
			t.Fatalf("segment %d: %d, error %d", seg, at, why)
		}
		if got, pages, why := segment.Scan(e, seg, 5); !slices.Equal(got, l) || pages != 127 || why != api.OK {
			t.Errorf("segment %d: %d records, %d pages, error %d", seg, len(got), pages, why)
		}
		if e, at, why := segment.Write(made(1024), seg, 5, 0, of(4096, 4096, 4096, 1786)); !sameDisk(e, made(1024)) || at != 0 || why != api.ErrFull {
			t.Errorf("segment %d, a page too many: %d, error %d", seg, at, why)
		}
	}
}

// Each is refused for the first reason that applies, and the disk is as it was.
func TestWriteRefuses(t *testing.T) {
	d := withPuts(made(26), 4, plainPage(9, "elder"))
	full := crowded(made(26), api.MaxCache)
	for _, c := range []struct {
		say string
		d   api.Disk
		seg int
		tag uint64
		at  int
		l   []string
		why api.Errno
	}{
		{"segment -1", d, -1, 5, 0, of(1), api.ErrRange},
		{"segment 8", d, 8, 5, 0, of(1), api.ErrRange},
		{"the least segment", d, math.MinInt, 5, 0, of(1), api.ErrRange},
		{"the greatest segment", d, math.MaxInt, 5, 0, nil, api.ErrRange},
		{"tag 0", d, 1, 0, 0, of(1), api.ErrRange},
		{"a tag too great", d, 1, api.MaxTag + 1, 0, of(1), api.ErrRange},
		{"the greatest tag", d, 1, math.MaxUint64, 3, nil, api.ErrRange},
		{"place -1", d, 1, 5, -1, of(1), api.ErrRange},
		{"place 4", d, 1, 5, 4, nil, api.ErrRange},
		{"the least place", d, 1, 5, math.MinInt, of(1), api.ErrRange},
		{"the greatest place", d, 1, 5, math.MaxInt, of(1), api.ErrRange},
		{"segment 8, too long", d, 8, 5, 0, of(4097), api.ErrRange},
		{"tag 0, too long", d, 1, 0, 0, of(4097), api.ErrRange},
		{"place 4, too long", d, 1, 5, 4, of(4097), api.ErrRange},
		{"place 4, off", off(d), 1, 5, 4, of(1), api.ErrRange},
		{"too long", d, 1, 5, 0, of(4097), api.ErrLong},
		{"too long, at the end", d, 1, 5, 3, of(1, 4097), api.ErrLong},
		{"too long, off", off(d), 1, 5, 0, of(4097), api.ErrLong},
		{"too long together", d, 1, 5, 0, of(4096, 4096, 4096, 4096), api.ErrLong},
		{"a page too many", d, 1, 5, 0, of(328), api.ErrFull},
		{"a page too many, the last segment", d, 7, 5, 0, of(328), api.ErrFull},
		{"no room behind place 2", d, 1, 5, 2, of(107), api.ErrFull},
		{"no room behind place 3", d, 1, 5, 3, of(0), api.ErrFull},
		{"no room, off", off(d), 1, 5, 3, of(0), api.ErrFull},
		{"no room, a fuse of 0", withFuse(d, 0), 1, 5, 1, of(300), api.ErrFull},
		{"off", off(d), 1, 5, 0, of(1), api.ErrPower},
		{"off, with a fuse", off(withFuse(d, 9)), 1, 5, 0, of(300), api.ErrPower},
		{"off, and full", off(full), 1, 5, 0, of(1), api.ErrPower},
		{"full", full, 1, 5, 0, of(1), api.ErrFull},
		{"full, a fuse of 0", withFuse(full, 0), 1, 5, 0, of(1), api.ErrFull},
	} {
		if e, at, why := segment.Write(c.d, c.seg, c.tag, c.at, c.l); !sameDisk(e, c.d) || at != 0 || why != c.why {
			t.Errorf("%s: %d, error %d, not %d; as it was: %v", c.say, at, why, c.why, sameDisk(e, c.d))
		}
	}
}

// Where nothing is written, nothing is asked of the disk: neither power, nor room in its cache.
func TestWriteOfNothing(t *testing.T) {
	for _, d := range []api.Disk{made(26), off(made(26)), withFuse(made(26), 0), crowded(made(26), api.MaxCache)} {
		for at := range 4 {
			if e, to, why := segment.Write(d, 7, 5, at, nil); !sameDisk(e, d) || to != at || why != api.OK {
				t.Errorf("place %d: %d, error %d", at, to, why)
			}
		}
	}
}

func TestWriteWhosePowerGoes(t *testing.T) {
	l := of(100, 100, 100)
	pages := plainPages(6, plainFrames(l...))
	for fuse := range 4 {
		e, at, why := segment.Write(withFuse(made(42), fuse), 2, 5, 1, l)
		want, to, no := off(withFuse(withPuts(made(42), 13, pages[:min(fuse+1, 3)]...), 0)), 0, api.ErrPower
		if fuse == 3 {
			want.Off, to, no = false, 4, api.OK
		}
		if !sameDisk(e, want) || at != to || why != no {
			t.Errorf("a fuse of %d: %d, error %d, %d writes", fuse, at, why, len(e.Cache))
		}
	}
}

func TestWriteIntoACacheThatGetsFull(t *testing.T) {
	l := of(100, 100, 100)
	pages := plainPages(5, plainFrames(l...))
	for room := range 4 {
		d := crowded(made(26), api.MaxCache-room)
		want, to, no := withPuts(d, 8, pages[:room]...), 0, api.ErrFull
		if room == 3 {
			to, no = 3, api.OK
		}
		if e, at, why := segment.Write(d, 2, 5, 0, l); !sameDisk(e, want) || at != to || why != no {
			t.Errorf("room for %d: %d, error %d, %d writes", room, at, why, len(e.Cache))
		}
	}
}

// 7.3

func TestScanIsTheTextsRecords(t *testing.T) {
	text := plainFrames("a", "bc", strings.Repeat("d", 220), "", "e")
	pages := plainPages(5, text)
	all := []string{"a", "bc", strings.Repeat("d", 220), "", "e"}
	if len(pages) != 3 {
		t.Fatalf("the text has %d pages", len(pages))
	}
	other := strings.Repeat("z", 128)
	for _, c := range []struct {
		say     string
		sectors []string
		tag     uint64
		records []string
		pages   int
	}{
		{"none", nil, 5, nil, 0},
		{"whole", pages, 5, all, 3},
		{"a page missing", pages[:2], 5, []string{"a", "bc"}, 2},
		{"two missing", pages[:1], 5, []string{"a", "bc"}, 1},
		{"the first one missing", append([]string{zeros(128)}, pages[1:]...), 5, nil, 0},
		{"the second one another", []string{pages[0], other, pages[2]}, 5, []string{"a", "bc"}, 1},
		{"the second one torn", []string{pages[0], pages[1][:64] + other[64:], pages[2]}, 5, []string{"a", "bc"}, 1},
		{"the second one twice", []string{pages[0], pages[1], pages[1]}, 5, []string{"a", "bc"}, 2},
		{"another tag", pages, 6, nil, 0},
		{"tag 0", pages, 0, nil, 0},
		{"tag 0 of zero bytes", []string{zeros(128)}, 0, nil, 0},
		{"the tag ahead", pages, 4, nil, 0},
		{"the greatest tag", []string{plainPage(math.MaxUint64, plainFrame("a")), zeros(128), plainPage(1, plainFrame("b"))}, math.MaxUint64, []string{"a"}, 1},
		{"a page of no data", []string{plainPage(5, plainFrame("a")), plainPage(6, ""), plainPage(7, plainFrame("b"))}, 5, []string{"a", "b"}, 3},
		{"a page of no data alone", []string{plainPage(5, "")}, 5, nil, 1},
		{"no frame", []string{plainPage(5, "\xff\xff\xff\xff\xff\xff\xff\xff\xff\xff"), plainPage(6, plainFrame("b"))}, 5, nil, 2},
		{"another sum", []string{plainPage(5, plainFrame("a")+"\x01abcde"), plainPage(6, plainFrame("b"))}, 5, []string{"a"}, 2},
		{"behind the segment's end", append(slices.Clone(pages), plainPage(8, plainFrame("f"))), 5, all, 3},
		{"half a frame at the end", []string{plainPage(5, plainFrame("a")+plainFrame("bc")[:6])}, 5, []string{"a"}, 1},
	} {
		for seg := range api.MaxSegs - 1 {
			d := withSegment(made(26), seg, c.sectors...)
			for _, d := range []api.Disk{d, withFuse(d, 0), crowded(d, api.MaxCache)} {
				if l, n, why := segment.Scan(d, seg, c.tag); !slices.Equal(l, c.records) || n != c.pages || why != api.OK {
					t.Errorf("%s, segment %d: %q, %d pages, error %d", c.say, seg, l, n, why)
				}
			}
		}
	}
}

// What a sector holds counts: the last write at it, flushed or not.
func TestScanReadsWhatIsHeld(t *testing.T) {
	d := withSegment(made(26), 4, plainPages(5, plainFrames("a"))...)
	d = withPuts(d, 15, plainPage(6, plainFrame("b")), plainPage(7, plainFrame("c")))
	if l, n, why := segment.Scan(d, 4, 5); !slices.Equal(l, []string{"a", "b", "c"}) || n != 3 || why != api.OK {
		t.Errorf("%q, %d pages, error %d", l, n, why)
	}
	d = withPuts(d, 15, plainPage(6, plainFrame("d")))
	if l, n, why := segment.Scan(d, 4, 5); !slices.Equal(l, []string{"a", "d", "c"}) || n != 3 || why != api.OK {
		t.Errorf("written again: %q, %d pages, error %d", l, n, why)
	}
	d = withPuts(d, 14, zeros(128))
	if l, n, why := segment.Scan(d, 4, 5); len(l) != 0 || n != 0 || why != api.OK {
		t.Errorf("written over: %q, %d pages, error %d", l, n, why)
	}
}

// What lies ahead of a segment, or behind it, is no part of it.
func TestSegmentsLieSideBySide(t *testing.T) {
	d := made(29)
	for i := range d.Sectors {
		d.Sectors[i] = plainPage(uint64(100+i), plainFrame(string(rune('A'+i))))
	}
	for seg := range api.MaxSegs {
		from := 2 + 3*seg
		want := []string{string(rune('A' + from)), string(rune('A' + from + 1)), string(rune('A' + from + 2))}
		if l, n, why := segment.Scan(d, seg, uint64(100+from)); !slices.Equal(l, want) || n != 3 || why != api.OK {
			t.Errorf("segment %d: %q, %d pages, error %d", seg, l, n, why)
		}
		if l, why := segment.Take(d, seg, uint64(100+from), 4); len(l) != 0 || why != api.ErrCode {
			t.Errorf("segment %d, a record of the next one: %q, error %d", seg, l, why)
		}
	}
}

func TestTakeIsSoManyRecords(t *testing.T) {
	all := []string{"a", "bc", strings.Repeat("d", 200), "", "e"}
	text := plainFrames(all...)
	for _, c := range []struct {
		say  string
		text string
		has  int
	}{
		{"alone", text, 5},
		{"half a frame behind", text + plainFrame("f")[:3], 5},
		{"another sum behind", text + "\x01abcde", 5},
		{"no number behind", text + strings.Repeat("\xff", 11), 5},
		{"a length that is none behind", text + "\xff\xff\x01", 5},
		{"cut", text[:len(text)-1], 4},
		{"none", "", 0},
	} {
		d := withSegment(made(42), 6, plainPages(5, c.text)...)
		for many := range 8 {
			want, no := []string(nil), api.ErrCode
			if many <= c.has {
				want, no = all[:many], api.OK
			}
			if l, why := segment.Take(d, 6, 5, many); !slices.Equal(l, want) || why != no {
				t.Errorf("%s, %d records: %q, error %d", c.say, many, l, why)
			}
		}
		for _, many := range []int{api.MaxMany, math.MaxInt} {
			if l, why := segment.Take(d, 6, 5, many); len(l) != 0 || why != api.ErrCode {
				t.Errorf("%s, %d records: %q, error %d", c.say, many, l, why)
			}
		}
		for _, many := range []int{-1, -2, math.MinInt} {
			if l, why := segment.Take(d, 6, 5, many); len(l) != 0 || why != api.ErrRange {
				t.Errorf("%s, %d records: %q, error %d", c.say, many, l, why)
			}
		}
	}
}

// Of another tag there is an empty text: no record is in it, and none can be taken.
func TestTakeOfAnotherTag(t *testing.T) {
	d := withSegment(made(26), 6, plainPages(5, plainFrames("a"))...)
	for _, tag := range []uint64{0, 4, 6, math.MaxUint64} {
		if l, why := segment.Take(d, 6, tag, 0); len(l) != 0 || why != api.OK {
			t.Errorf("tag %d, none: %q, error %d", tag, l, why)
		}
		if l, why := segment.Take(d, 6, tag, 1); len(l) != 0 || why != api.ErrCode {
			t.Errorf("tag %d, one: %q, error %d", tag, l, why)
		}
	}
}

func TestReadingRefuses(t *testing.T) {
	d := withSegment(made(26), 6, plainPages(5, plainFrames("a"))...)
	for _, c := range []struct {
		say string
		d   api.Disk
		seg int
		why api.Errno
	}{
		{"off", off(d), 6, api.ErrPower},
		{"off, no such segment", off(d), 8, api.ErrPower},
		{"off, with a fuse", off(withFuse(d, 5)), 6, api.ErrPower},
		{"segment -1", d, -1, api.ErrRange},
		{"segment 8", d, 8, api.ErrRange},
		{"the least segment", d, math.MinInt, api.ErrRange},
		{"the greatest segment", d, math.MaxInt, api.ErrRange},
	} {
		for _, tag := range []uint64{0, 5, math.MaxUint64} {
			if l, n, why := segment.Scan(c.d, c.seg, tag); len(l) != 0 || n != 0 || why != c.why {
				t.Errorf("%s: Scan: %q, %d, error %d, not %d", c.say, l, n, why, c.why)
			}
			for _, many := range []int{0, 1, -1} {
				if l, why := segment.Take(c.d, c.seg, tag, many); len(l) != 0 || why != c.why {
					t.Errorf("%s: Take: %q, error %d, not %d", c.say, l, why, c.why)
				}
			}
		}
	}
}

// 7.4

// texts are all texts of a disk.
func texts(d api.Disk) []string {
	l := slices.Clone(d.Sectors)
	for _, p := range d.Cache {
		l = append(l, p.Data)
	}
	return l
}

// lived is a disk whose texts are each in memory of their own.
func lived() api.Disk {
	d := made(26)
	for i := range d.Sectors {
		d.Sectors[i] = zeros(128)
	}
	return withPuts(d, 8, plainPages(5, plainFrames("a", strings.Repeat("b", 200)))...)
}

// writes are the disks of all sorts of writes.
func writes(d api.Disk) []api.Disk {
	var l []api.Disk
	for _, d := range []api.Disk{d, withFuse(d, 1), off(d)} {
		for _, records := range [][]string{of(1), of(120), of(400), nil, of(4097)} {
			e, _, _ := segment.Write(d, 3, 5, 0, records)
			f, _, _ := segment.Write(d, 9, 5, 0, records)
			l = append(l, e, f)
		}
	}
	return l
}

func TestDisksAreNewMemory(t *testing.T) {
	d, was := lived(), lived()
	told, again := append(writes(d), writes(d)...), writes(was)
	at := map[*byte]int{}
	for i, e := range append(slices.Clone(told), d) {
		for _, s := range texts(e) {
			if by, is := at[unsafe.StringData(s)]; is {
				t.Fatalf("answers %d and %d share a text", by, i)
			}
			at[unsafe.StringData(s)] = i
		}
	}
	for i, e := range told {
		clear(e.Sectors[:cap(e.Sectors)])
		clear(e.Cache[:cap(e.Cache)])
		if !sameDisk(d, was) {
			t.Fatalf("answer %d shares memory with an argument", i)
		}
		for k, later := range told[i+1:] {
			if !sameDisk(later, again[(i+1+k)%len(again)]) {
				t.Fatalf("answer %d shares memory with another one", i)
			}
		}
	}
}

func TestRecordsAreNewMemory(t *testing.T) {
	d := lived()
	var told [][]string
	for range 2 {
		a, _, _ := segment.Scan(d, 2, 5)
		b, _ := segment.Take(d, 2, 5, 2)
		told = append(told, a, b)
	}
	at := map[*byte]bool{}
	for _, l := range told {
		for _, s := range l {
			if at[unsafe.StringData(s)] {
				t.Error("two answers share a text")
			}
			at[unsafe.StringData(s)] = true
		}
	}
	for i, l := range told {
		clear(l[:cap(l)])
		for _, later := range told[i+1:] {
			if !slices.Equal(later, []string{"a", strings.Repeat("b", 200)}) {
				t.Fatalf("answer %d shares memory with another one", i)
			}
		}
	}
}

// What is handed in stays as it is, and so does the room behind it, which is the caller's.
func TestWhatIsHandedInIsLeftAlone(t *testing.T) {
	d, records := lived(), append(make([]string, 0, 5), "a", "bc")
	d.Cache = append(make([]api.Put, 0, 9), d.Cache...)
	d.Sectors = append(make([]string, 0, 40), d.Sectors...)
	segment.Need(records)
	segment.Write(d, 3, 5, 0, records)
	segment.Scan(d, 2, 5)
	segment.Take(d, 2, 5, 1)
	if !sameDisk(d, lived()) || !slices.Equal(records, []string{"a", "bc"}) {
		t.Error("what was handed in has changed")
	}
	if !slices.Equal(records[:5][2:], make([]string, 3)) || !slices.Equal(d.Cache[:9][3:], make([]api.Put, 6)) || !slices.Equal(d.Sectors[:40][26:], make([]string, 14)) {
		t.Error("there is something in the room behind what was handed in")
	}
}

// 7.5, 7.6

// isBeginning tells whether a list is a beginning of another one.
func isBeginning(l, of []string) bool {
	return len(l) <= len(of) && slices.Equal(l, of[:len(l)])
}

// someRecords are some records, long ones and short ones.
func someRecords(r *rand.Rand, most int) []string {
	var l []string
	for range r.Intn(most + 1) {
		b := make([]byte, r.Intn(1+[]int{0, 3, 30, 110, 250}[r.Intn(5)]))
		r.Read(b)
		l = append(l, string(b))
	}
	return l
}

// elder is a disk whose segment is full of pages of tags below a tag, torn ones among them.
func elder(r *rand.Rand, long, seg int, tag uint64) api.Disk {
	d := made(2 + 8*long + r.Intn(8))
	var l []string
	for range long {
		s := plainPage(tag-1-uint64(r.Intn(int(min(tag-1, 300)))), plainFrame("elder"))
		if r.Intn(4) == 0 {
			s = s[:r.Intn(128)] + zeros(128)
		}
		l = append(l, s[:128])
	}
	return withSegment(d, seg, l...)
}

// Batches are written one behind the other, some flushed, and the power goes: what is kept of each write, and where one is torn, is anything.
func TestABeginningIsKept(t *testing.T) {
	for seed := range 4000 {
		r := rand.New(rand.NewSource(int64(seed)))
		long, seg, tag := 1+r.Intn(6), r.Intn(8), 2+r.Uint64()%(api.MaxTag-1)>>r.Intn(60)
		d := elder(r, long, seg, tag)
		var all []string
		sure, at := 0, 0
		for range 1 + r.Intn(6) {
			l := someRecords(r, 4)
			e, to, why := segment.Write(d, seg, tag, at, l)
			if why == api.ErrFull || why == api.ErrLong {
				break
			}
			if why != api.OK {
				t.Fatalf("seed %d: Write: error %d", seed, why)
			}
			d, at, all = e, to, append(all, l...)
			if got, pages, why := segment.Scan(d, seg, tag); !slices.Equal(got, all) || pages != at || why != api.OK {
				t.Fatalf("seed %d: %d records of %d, %d pages of %d, error %d", seed, len(got), len(all), pages, at, why)
			}
			if r.Intn(3) == 0 {
				d, _ = disk.Flush(d)
				sure = len(all)
			}
		}
		keep := make([]bool, len(d.Cache))
		for i := range keep {
			keep[i] = r.Intn(3) != 0
		}
		e, _ := disk.Crash(d, keep, r.Intn(len(d.Cache)+1)-1, r.Intn(130))
		got, _, why := segment.Scan(e, seg, tag)
		if !isBeginning(got, all) || len(got) < sure || why != api.OK {
			t.Fatalf("seed %d: %q of %q, of which %d are sure, error %d", seed, got, all, sure, why)
		}
		for many := range len(got) + 1 {
			if l, why := segment.Take(e, seg, tag, many); !slices.Equal(l, got[:many]) || why != api.OK {
				t.Fatalf("seed %d: %d taken: %q, error %d", seed, many, l, why)
			}
		}
	}
}

// A batch of three pages is written behind one that was flushed, each page torn behind each byte, the others kept or not.
func TestTornAnywhere(t *testing.T) {
	first, second := of(3, 90), of(100, 5, 180)
	all := slices.Concat(first, second)
	for _, tag := range []uint64{2, 254, 255, 256, 65535, 1 << 32, api.MaxTag} {
		d := elder(rand.New(rand.NewSource(7)), 4, 5, tag)
		d, at, _ := segment.Write(d, 5, tag, 0, first)
		d, _ = disk.Flush(d)
		d, to, why := segment.Write(d, 5, tag, at, second)
		if at != 1 || to != 4 || why != api.OK {
			t.Fatalf("places %d and %d, error %d", at, to, why)
		}
		for torn := range 3 {
			for bytes := range api.SectorSize + 1 {
				for kept := range 8 {
					e, _ := disk.Crash(d, []bool{kept&1 != 0, kept&2 != 0, kept&4 != 0}, torn, bytes)
					got, _, why := segment.Scan(e, 5, tag)
					if !isBeginning(got, all) || len(got) < len(first) || why != api.OK {
						t.Fatalf("tag %d, page %d torn at %d, kept %b: %d records, error %d", tag, torn, bytes, kept, len(got), why)
					}
					if whole := kept|1<<torn == 7 && bytes == api.SectorSize; whole && len(got) != len(all) {
						t.Fatalf("tag %d: all was kept, and %d records are there", tag, len(got))
					}
				}
			}
		}
	}
}

// Segments are written anew, again and again, each time by a tag beyond all that is there.
func TestWrittenAnew(t *testing.T) {
	for seed := range 300 {
		r := rand.New(rand.NewSource(int64(seed)))
		long := 1 + r.Intn(5)
		d, seg, tag := made(2+8*long), r.Intn(8), uint64(1+r.Intn(3))
		for range 12 {
			l := someRecords(r, 6)
			e, at, why := segment.Write(d, seg, tag, 0, l)
			if why == api.ErrFull {
				continue
			}
			got, pages, no := segment.Scan(e, seg, tag)
			if why != api.OK || no != api.OK || !slices.Equal(got, l) || pages != at {
				t.Fatalf("seed %d: %q, not %q, %d pages of %d, errors %d and %d", seed, got, l, pages, at, why, no)
			}
			d, tag = e, tag+uint64(long)+uint64(r.Intn(3))
			if r.Intn(2) == 0 {
				d, _ = disk.Flush(d)
			}
		}
	}
}

// P1, P3, P4

func FuzzAnyArguments(f *testing.F) {
	f.Add("a", 26, 3, uint64(5), 0, 2, -1, false)
	f.Add(strings.Repeat("z", 300), 1024, 7, uint64(api.MaxTag), 126, -1, 0, false)
	f.Add("", 9, -1, uint64(0), math.MaxInt, math.MaxInt, math.MinInt, true)
	f.Add(plainPage(5, plainFrame("a")), 10, 0, uint64(5), 1, 1, 3, false)
	f.Fuzz(func(t *testing.T, s string, sectors, seg int, tag uint64, at, many, fuse int, isOff bool) {
		d := made(min(max(sectors, 0), 1030))
		d.Fuse, d.Off = fuse, isOff
		if len(d.Sectors) > 2 && len(s) >= 128 {
			d.Sectors[2] = s[:128]
		}
		records := []string{s, "", s}
		long, no := segment.Long(d)
		if is := disk.Check(d); is != api.OK && no != is || no != api.OK && long != 0 {
			t.Fatalf("Long: %d, error %d, and the disk's is %d", long, no, is)
		}
		e, to, why := segment.Write(d, seg, tag, at, records)
		if no != api.OK && (!noDisk(e) || why != no) || why != api.OK && to != 0 || (why == api.ErrRange || why == api.ErrLong) && no == api.OK && !sameDisk(e, d) {
			t.Fatalf("Write: %d, errors %d and %d", to, why, no)
		}
		l, pages, why := segment.Scan(e, seg, tag)
		if why != api.OK && len(l)+pages != 0 || pages > long {
			t.Fatalf("Scan: %d records, %d pages, error %d", len(l), pages, why)
		}
		if got, why := segment.Take(e, seg, tag, many); why != api.OK && len(got) != 0 || why == api.OK && !slices.Equal(got, l[:many]) {
			t.Fatalf("Take: %q, error %d", got, why)
		}
	})
}

// Nil and empty lists are alike, and a call that is asked again answers the same.
func TestAnswersHangOnArgumentsAlone(t *testing.T) {
	want := withPuts(made(26), 5, plainPages(5, plainFrames("a", "bc"))...)
	for range 3 {
		for _, cache := range [][]api.Put{nil, {}, make([]api.Put, 0, 7)} {
			d := made(26)
			d.Cache = cache
			if e, at, why := segment.Write(d, 1, 5, 0, []string{"a", "bc"}); !sameDisk(e, want) || at != 1 || why != api.OK {
				t.Fatalf("%d, error %d", at, why)
			}
			if e, at, why := segment.Write(d, 1, 5, 2, []string{}); !sameDisk(e, made(26)) || at != 2 || why != api.OK {
				t.Fatalf("%d, error %d", at, why)
			}
		}
	}
}

func TestNoGoroutineIsLeft(t *testing.T) {
	before := runtime.NumGoroutine()
	d, _, _ := segment.Write(made(26), 1, 5, 0, of(100, 100))
	segment.Long(d)
	segment.Need(of(100))
	segment.Scan(d, 1, 5)
	segment.Take(d, 1, 5, 1)
	if after := runtime.NumGoroutine(); after > before {
		t.Errorf("%d goroutines, and %d ahead of the calls", after, before)
	}
}
