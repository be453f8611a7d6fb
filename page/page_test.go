package page_test

import (
	"encoding/binary"
	"math"
	"math/rand"
	"runtime"
	"slices"
	"strings"
	"testing"
	"unsafe"

	"spoor/api"
	"spoor/page"
)

// The calls have the signatures of doc/05-page.md.
var (
	_ func(uint64, string) (string, api.Errno)   = page.Put
	_ func(string, uint64) (string, api.Errno)   = page.Get
	_ func(string) (uint64, api.Errno)           = page.Tag
	_ func(uint64, string) ([]string, api.Errno) = page.Split
	_ func([]string, uint64) (string, int)       = page.Join
)

func zeros(many int) string {
	return strings.Repeat("\x00", many)
}

// plainTag is a tag's bytes, by Go's library.
func plainTag(tag uint64) string {
	return string(binary.BigEndian.AppendUint64(nil, tag))
}

// plainPage is a page by the document's words, put together from its parts.
func plainPage(tag uint64, data string) string {
	return plainTag(tag) + string([]byte{byte(len(data))}) + data + zeros(111-len(data)) + plainTag(tag)
}

// plainPages are data's pages by the document's words.
func plainPages(tag uint64, data string) []string {
	var l []string
	for data != "" {
		many := min(len(data), 111)
		l = append(l, plainPage(tag, data[:many]))
		data, tag = data[many:], tag+1
	}
	return l
}

func noise(r *rand.Rand, many int) string {
	b := make([]byte, many)
	r.Read(b)
	return string(b)
}

// turned is s with one byte turned.
func turned(s string, at int, by byte) string {
	b := []byte(s)
	b[at] ^= by
	return string(b)
}

// tags are those at which something turns, and one of eight bytes that are all unlike.
func tags() []uint64 {
	return []uint64{1, 2, 127, 128, 255, 256, 257, 65535, 65536, 1 << 32, 1<<56 - 1, 0x0102030405060708, api.MaxTag - 1, api.MaxTag, api.MaxTag + 1, 1 << 63, math.MaxUint64 - 1, math.MaxUint64}
}

// datas are pages' data of all lengths that may be: noise, zero bytes, and bytes of ones.
func datas() []string {
	r := rand.New(rand.NewSource(5))
	var l []string
	for many := range api.PageData + 1 {
		l = append(l, noise(r, many), zeros(many), strings.Repeat("\xff", many))
	}
	return l
}

// 5.1

func TestExample(t *testing.T) {
	want := zeros(7) + "\x01\x01a" + zeros(110) + zeros(7) + "\x01"
	if s, why := page.Put(1, "a"); s != want || why != api.OK {
		t.Errorf("Put(1, a): %x, error %d", s, why)
	}
}

func TestPutIsThePage(t *testing.T) {
	for _, tag := range tags() {
		for _, data := range datas() {
			if s, why := page.Put(tag, data); s != plainPage(tag, data) || len(s) != api.SectorSize || why != api.OK {
				t.Fatalf("Put(%d, %d bytes): %x, error %d", tag, len(data), s, why)
			}
		}
	}
}

func TestPutRefuses(t *testing.T) {
	for _, many := range []int{0, 1, 111, 112, 256, 257, 1000} {
		data := strings.Repeat("a", many)
		if s, why := page.Put(0, data); s != "" || why != api.ErrRange {
			t.Errorf("Put(0, %d bytes): %x, error %d", many, s, why)
		}
		if many <= api.PageData {
			continue
		}
		for _, tag := range tags() {
			if s, why := page.Put(tag, data); s != "" || why != api.ErrLong {
				t.Errorf("Put(%d, %d bytes): %x, error %d", tag, many, s, why)
			}
		}
	}
}

func TestTagIsThatOfBothEnds(t *testing.T) {
	r := rand.New(rand.NewSource(51))
	for _, tag := range tags() {
		for range 20 {
			s := plainTag(tag) + noise(r, 112) + plainTag(tag)
			if got, why := page.Tag(s); got != tag || why != api.OK {
				t.Fatalf("Tag(%x): %d, error %d", s, got, why)
			}
		}
	}
}

// A sector of another length has no tag, whatever its ends are.
func TestOtherLengthsAreTooLong(t *testing.T) {
	for _, many := range []int{0, 1, 7, 8, 15, 16, 17, 119, 127, 129, 136, 256, 1000} {
		for _, s := range []string{zeros(many), strings.Repeat("\x01", many), (plainPage(1, "a") + strings.Repeat(plainPage(1, "a"), 7))[:many]} {
			if tag, why := page.Tag(s); tag != 0 || why != api.ErrLong {
				t.Errorf("Tag of %d bytes: %d, error %d", many, tag, why)
			}
			for _, tag := range []uint64{0, 1, 0x0101010101010101} {
				if data, why := page.Get(s, tag); data != "" || why != api.ErrLong {
					t.Errorf("Get(%d bytes, %d): %q, error %d", many, tag, data, why)
				}
			}
			if data, many := page.Join([]string{s}, 1); data != "" || many != 0 {
				t.Errorf("Join of a sector of %d bytes: %q, %d", len(s), data, many)
			}
		}
	}
}

func TestUnlikeEndsAreNoTag(t *testing.T) {
	for _, tag := range tags() {
		s := plainPage(tag, "abc")
		for at := range api.SectorSize {
			if at >= 8 && at < 120 {
				continue
			}
			for _, by := range []byte{1, 0x10, 0x80, 0xff} {
				other := turned(s, at, by)
				if got, why := page.Tag(other); got != 0 || why != api.ErrNone {
					t.Fatalf("tag %d, byte %d turned: %d, error %d", tag, at, got, why)
				}
				for _, asked := range []uint64{tag, 0, binary.BigEndian.Uint64([]byte(other[:8])), binary.BigEndian.Uint64([]byte(other[120:]))} {
					if data, why := page.Get(other, asked); data != "" || why != api.ErrNone {
						t.Fatalf("tag %d, byte %d turned: Get by %d: %q, error %d", tag, at, asked, data, why)
					}
				}
			}
		}
	}
}

func TestZeroIsNoTag(t *testing.T) {
	for _, s := range []string{zeros(128), plainPage(0, "a"), zeros(8) + strings.Repeat("\xff", 112) + zeros(8)} {
		if tag, why := page.Tag(s); tag != 0 || why != api.ErrNone {
			t.Errorf("Tag(%x): %d, error %d", s, tag, why)
		}
		for _, tag := range []uint64{0, 1, math.MaxUint64} {
			if data, why := page.Get(s, tag); data != "" || why != api.ErrNone {
				t.Errorf("Get(%x, %d): %q, error %d", s, tag, data, why)
			}
		}
	}
}

func TestGetIsTheData(t *testing.T) {
	for _, tag := range tags() {
		for _, data := range datas() {
			if got, why := page.Get(plainPage(tag, data), tag); got != data || why != api.OK {
				t.Fatalf("Get of tag %d and %d bytes: %x, error %d", tag, len(data), got, why)
			}
		}
	}
}

func TestGetByAnotherTag(t *testing.T) {
	for _, tag := range tags() {
		for _, asked := range append(tags(), 0) {
			if asked == tag {
				continue
			}
			for _, s := range []string{plainPage(tag, "abc"), plainPage(tag, ""), turned(plainPage(tag, "abc"), 8, 0xf0)} {
				if data, why := page.Get(s, asked); data != "" || why != api.ErrNone {
					t.Fatalf("tag %d, asked by %d: %q, error %d", tag, asked, data, why)
				}
			}
		}
	}
}

func TestGetOfWhatIsNoPageOtherwise(t *testing.T) {
	refused := func(say string, s string) {
		t.Helper()
		if data, why := page.Get(s, 7); data != "" || why != api.ErrCode {
			t.Errorf("%s: %q, error %d", say, data, why)
		}
		if tag, why := page.Tag(s); tag != 7 || why != api.OK {
			t.Errorf("%s: Tag: %d, error %d", say, tag, why)
		}
	}
	for many := 112; many < 256; many++ {
		for _, fill := range []string{"\x00", "a"} {
			refused("more bytes than a page has", plainTag(7)+string([]byte{byte(many)})+strings.Repeat(fill, 111)+plainTag(7))
		}
	}
	for many := range api.PageData {
		s := plainPage(7, strings.Repeat("a", many))
		for at := 9 + many; at < 120; at++ {
			refused("a byte behind the data", turned(s, at, 1))
		}
		refused("the last byte behind the data", turned(s, 119, 0x80))
	}
}

// 5.2

// lengths are those of data at which another page begins, and near them.
func lengths() []int {
	l := []int{0, 1, 2, 50}
	for _, pages := range []int{1, 2, 3, 10, 127, 128} {
		l = append(l, pages*111-1, pages*111)
		if pages < 128 {
			l = append(l, pages*111+1)
		}
	}
	return l
}

func TestSplitIsThePages(t *testing.T) {
	r := rand.New(rand.NewSource(52))
	for _, tag := range tags() {
		if tag > api.MaxTag {
			continue
		}
		for _, many := range lengths() {
			data := noise(r, many)
			l, why := page.Split(tag, data)
			if !slices.Equal(l, plainPages(tag, data)) || len(l) != (many+110)/111 || why != api.OK {
				t.Fatalf("Split(%d, %d bytes): %d pages, error %d", tag, many, len(l), why)
			}
		}
	}
}

func TestSplitRefuses(t *testing.T) {
	for _, many := range append(lengths(), 128*111+1, 128*111+2, 129*111, 1<<15, 1<<20) {
		data := strings.Repeat("a", many)
		for _, tag := range []uint64{0, api.MaxTag + 1, api.MaxTag + 2, 1 << 63, math.MaxUint64} {
			if l, why := page.Split(tag, data); len(l) != 0 || why != api.ErrRange {
				t.Errorf("Split(%d, %d bytes): %d pages, error %d", tag, many, len(l), why)
			}
		}
		if many <= 128*111 {
			continue
		}
		for _, tag := range []uint64{1, 2, api.MaxTag} {
			if l, why := page.Split(tag, data); len(l) != 0 || why != api.ErrLong {
				t.Errorf("Split(%d, %d bytes): %d pages, error %d", tag, many, len(l), why)
			}
		}
	}
}

func TestJoinByHand(t *testing.T) {
	seven, eight, nine := plainPage(7, "a"), plainPage(8, strings.Repeat("b", 111)), plainPage(9, "c")
	both := "a" + strings.Repeat("b", 111)
	for _, c := range []struct {
		say  string
		l    []string
		tag  uint64
		data string
		many int
	}{
		{"none", nil, 7, "", 0},
		{"an empty list", []string{}, 7, "", 0},
		{"one", []string{seven}, 7, "a", 1},
		{"three, the second one alone full", []string{seven, eight, nine}, 7, both + "c", 3},
		{"from the second on", []string{eight, nine}, 8, both[1:] + "c", 2},
		{"by another tag", []string{seven, eight, nine}, 8, "", 0},
		{"by the tag ahead", []string{seven, eight, nine}, 6, "", 0},
		{"by no tag", []string{seven, eight, nine}, 0, "", 0},
		{"zero bytes, by no tag", []string{zeros(128), seven}, 0, "", 0},
		{"a gap", []string{seven, nine}, 7, "a", 1},
		{"the same one twice", []string{seven, seven, eight}, 7, "a", 1},
		{"falling", []string{nine, eight, seven}, 9, "c", 1},
		{"zero bytes amid", []string{seven, zeros(128), nine}, 7, "a", 1},
		{"a sector too short amid", []string{seven, eight[1:], nine}, 7, "a", 1},
		{"nothing amid", []string{seven, "", eight}, 7, "a", 1},
		{"torn amid", []string{seven, eight[:100] + zeros(28), nine}, 7, "a", 1},
		{"no page otherwise amid", []string{seven, turned(plainPage(8, ""), 60, 1), nine}, 7, "a", 1},
		{"torn at the beginning", []string{turned(seven, 0, 1), eight}, 7, "", 0},
		{"pages without data", []string{plainPage(7, ""), eight, plainPage(9, ""), plainPage(10, "d")}, 7, both[1:] + "d", 4},
		{"pages without data alone", []string{plainPage(7, ""), plainPage(8, "")}, 7, "", 2},
		{"the greatest tag", []string{plainPage(math.MaxUint64, "a")}, math.MaxUint64, "a", 1},
		{"beyond the greatest tag", []string{plainPage(math.MaxUint64-1, "a"), plainPage(math.MaxUint64, "b"), plainPage(0, "c"), plainPage(1, "d")}, math.MaxUint64 - 1, "ab", 2},
		{"one at the greatest tag", []string{plainPage(math.MaxUint64, "b"), plainPage(1, "d")}, math.MaxUint64, "b", 1},
		{"beyond MaxTag", []string{plainPage(api.MaxTag, "a"), plainPage(api.MaxTag+1, "b")}, api.MaxTag, "ab", 2},
	} {
		if data, many := page.Join(c.l, c.tag); data != c.data || many != c.many {
			t.Errorf("%s: %q, %d", c.say, data, many)
		}
	}
}

// Join knows of no limit: MaxPages is of what Split makes.
func TestJoinOfMoreThanMaxPages(t *testing.T) {
	data := noise(rand.New(rand.NewSource(53)), 1000*111+5)
	l := plainPages(40, data)
	if got, many := page.Join(l, 40); got != data || many != 1001 {
		t.Errorf("Join of %d pages: %d bytes, %d", len(l), len(got), many)
	}
}

// 5.3

// apart tells whether no two of the texts lie in the same memory, in part at least.
func apart(l []string) bool {
	type place struct{ from, to uintptr }
	var all []place
	for _, s := range l {
		if s != "" {
			from := uintptr(unsafe.Pointer(unsafe.StringData(s)))
			all = append(all, place{from, from + uintptr(len(s))})
		}
	}
	slices.SortFunc(all, func(a, b place) int { return int(a.from) - int(b.from) })
	for i := 1; i < len(all); i++ {
		if all[i].from < all[i-1].to {
			return false
		}
	}
	return true
}

func TestTextsAreNewMemory(t *testing.T) {
	// The texts have more than one byte: Go keeps those of one in one place for all.
	data := noise(rand.New(rand.NewSource(54)), 300)
	one := plainPage(9, strings.Repeat("z", 111))
	told := []string{data, one}
	for range 2 {
		pages, _ := page.Split(5, data)
		whole, _ := page.Put(9, data[:111])
		short, _ := page.Put(9, data[:50])
		got, _ := page.Get(one, 9)
		joined, _ := page.Join([]string{one}, 9)
		all, _ := page.Join(pages, 5)
		told = append(append(told, pages...), whole, short, got, joined, all)
	}
	if !apart(told) {
		t.Error("texts share memory")
	}
}

func TestListsAreNewMemory(t *testing.T) {
	data := noise(rand.New(rand.NewSource(55)), 300)
	one, _ := page.Split(5, data)
	two, _ := page.Split(5, data)
	clear(one[:cap(one)])
	if !slices.Equal(two, plainPages(5, data)) {
		t.Error("two answers of Split share memory")
	}
	room := append(make([]string, 0, 9), two...)
	page.Join(room, 5)
	if !slices.Equal(room, two) || !slices.Equal(room[:9][len(two):], make([]string, 9-len(two))) {
		t.Error("Join has changed its list")
	}
}

// 5.4, 5.5

func TestThereAndBack(t *testing.T) {
	r := rand.New(rand.NewSource(56))
	for _, many := range lengths() {
		for _, tag := range []uint64{1, 255, 1 + r.Uint64()%api.MaxTag, api.MaxTag} {
			data := noise(r, many)
			l, _ := page.Split(tag, data)
			next := tag + uint64(len(l))
			for _, behind := range [][]string{
				nil, {zeros(128)}, {""}, {noise(r, 128)}, {plainPage(tag, "z")}, {plainPage(next+1, "z")}, {plainPage(max(next-1, 1), "z"), plainPage(next, "z")},
				{turned(plainPage(next, "z"), 127, 1)}, {turned(plainPage(next, "z"), 100, 1), plainPage(next+1, "z")}, {strings.Repeat("\xff", 128)},
			} {
				if len(behind) > 0 && behind[0] == plainPage(next, "z") {
					continue
				}
				got, pages := page.Join(append(slices.Clone(l), behind...), tag)
				if got != data || pages != len(l) {
					t.Fatalf("tag %d, %d bytes: %d bytes of %d pages", tag, many, len(got), pages)
				}
			}
		}
	}
}

// elders are sectors that a page of the tag 0x100 is written over: none ends with that tag.
func elders(r *rand.Rand) []string {
	l := []string{zeros(128), strings.Repeat("\xff", 128), noise(r, 128)}
	for _, tag := range []uint64{1, 0xff, 0x101, 0x1ff, 0x200, 0x10000, 0x10100, 0x0102030405060708, math.MaxUint64} {
		l = append(l, plainPage(tag, "elder"), plainPage(tag, noise(r, 111)), plainPage(tag, ""), plainPage(0x100, "torn")[:120]+plainTag(tag))
	}
	return l
}

func TestATornPage(t *testing.T) {
	r := rand.New(rand.NewSource(57))
	for _, data := range []string{"", "new", noise(r, 111), zeros(111)} {
		s := plainPage(0x100, data)
		for i, elder := range elders(r) {
			was, _ := page.Tag(elder)
			for cut := range api.SectorSize + 1 {
				torn := s[:cut] + elder[cut:]
				if got, why := page.Get(torn, 0x100); torn != s && why != api.ErrNone || torn == s && (got != data || why != api.OK) {
					t.Fatalf("%d bytes over elder %d, torn at %d: %q, error %d", len(data), i, cut, got, why)
				}
				if got, why := page.Get(torn, was); was != 0 && torn != elder && why != api.ErrNone || got != "" && torn != elder {
					t.Fatalf("%d bytes over elder %d, torn at %d: by the elder tag %q, error %d", len(data), i, cut, got, why)
				}
			}
		}
	}
}

// P1, P3, P4

func FuzzAnySector(f *testing.F) {
	f.Add(plainPage(1, "a"), uint64(1))
	f.Add(plainPage(0, "a"), uint64(0))
	f.Add(turned(plainPage(7, "abc"), 8, 0xff), uint64(7))
	f.Add(turned(plainPage(7, "abc"), 100, 1), uint64(7))
	f.Add("", uint64(math.MaxUint64))
	f.Fuzz(func(t *testing.T, s string, tag uint64) {
		data, why := page.Get(s, tag)
		if why == api.OK && plainPage(tag, data) != s || why != api.OK && data != "" {
			t.Fatalf("Get(%x, %d): %x, error %d", s, tag, data, why)
		}
		if is, no := page.Tag(s); why == api.OK && (is != tag || no != api.OK) || no != api.OK && (is != 0 || why != no) {
			t.Fatalf("Tag(%x): %d, errors %d and %d", s, is, no, why)
		}
		if p, no := page.Put(tag, s); no == api.OK && p != plainPage(tag, s) || no != api.OK && p != "" {
			t.Fatalf("Put(%d, %x): %x, error %d", tag, s, p, no)
		}
		l, no := page.Split(tag, s)
		if no == api.OK && !slices.Equal(l, plainPages(tag, s)) || no != api.OK && len(l) != 0 {
			t.Fatalf("Split(%d, %x): %d pages, error %d", tag, s, len(l), no)
		}
		if all, many := page.Join([]string{s, s}, tag); why == api.OK && (all != data || many != 1) || why != api.OK && (all != "" || many != 0) {
			t.Fatalf("Join(%x, %d): %x, %d", s, tag, all, many)
		}
	})
}

func TestAnswersHangOnArgumentsAlone(t *testing.T) {
	data := noise(rand.New(rand.NewSource(58)), 1000)
	for range 3 {
		l, why := page.Split(3, strings.Clone(data))
		if all, many := page.Join(l, 3); why != api.OK || !slices.Equal(l, plainPages(3, data)) || all != data || many != len(l) {
			t.Fatalf("%d pages, error %d, then %d bytes of %d pages", len(l), why, len(all), many)
		}
	}
}

func TestNoGoroutineIsLeft(t *testing.T) {
	before := runtime.NumGoroutine()
	l, _ := page.Split(3, strings.Repeat("a", 1000))
	page.Join(l, 3)
	page.Join(l, 4)
	s, _ := page.Put(1, "a")
	page.Get(s, 1)
	page.Tag(s)
	if after := runtime.NumGoroutine(); after > before {
		t.Errorf("%d goroutines, and %d ahead of the calls", after, before)
	}
}
