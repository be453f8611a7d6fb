package hist_test

import (
	"math"
	"math/rand"
	"runtime"
	"slices"
	"strconv"
	"strings"
	"testing"
	"unsafe"

	"spoor/api"
	"spoor/disk"
	"spoor/hist"
	"spoor/manifest"
	"spoor/past"
	"spoor/seglog"
	"spoor/snap"
)

// The calls have the signatures of doc/30-hist.md.
var (
	_ func(int) (api.Disk, api.Errno)                 = hist.Format
	_ func(api.Disk) (api.Past, api.Errno)            = hist.Past
	_ func(api.Disk, api.Event) (api.Disk, api.Errno) = hist.Accept
	_ func(api.Disk) (api.Disk, api.Errno)            = hist.Sync
	_ func(api.Disk) (api.Disk, api.Errno)            = hist.Checkpoint
	_ func(api.Disk, int64) (api.Disk, api.Errno)     = hist.Retain
	_ func(api.Disk) (api.Disk, api.Errno)            = hist.Recover
)

func sameRouter(a, b api.Router) bool {
	return a.Id == b.Id && a.Up == b.Up && slices.Equal(a.Routes, b.Routes) && slices.Equal(a.Links, b.Links)
}

// same tells whether pasts are alike: nil and empty lists are.
func same(a, b api.Past) bool {
	return slices.Equal(a.Base.Seats, b.Base.Seats) && slices.EqualFunc(a.Base.Routers, b.Base.Routers, sameRouter) &&
		a.Horizon == b.Horizon && slices.Equal(a.Events, b.Events)
}

func sameDisk(a, b api.Disk) bool {
	return slices.Equal(a.Sectors, b.Sectors) && slices.Equal(a.Cache, b.Cache) && a.Fuse == b.Fuse && a.Off == b.Off
}

func noDisk(d api.Disk) bool {
	return len(d.Sectors)+len(d.Cache) == 0 && d.Fuse == 0 && !d.Off
}

// Samples.

var (
	kinds   = []api.EventKind{api.EventUp, api.EventDown, api.EventAdd, api.EventWithdraw, api.EventLinkUp, api.EventLinkDown}
	ten     = api.Prefix{Addr: api.Addr{Lo: 10 << 24}, Len: 8}
	far     = api.Prefix{Six: true, Addr: api.Addr{Hi: math.MaxUint64, Lo: 7}, Len: 128}
	actions = []api.Action{{Kind: api.ActionDeliver}, {Kind: api.ActionDiscard}, {Kind: api.ActionForward, Iface: 3}}
)

// event is a right one, if its numbers are.
func event(kind api.EventKind, router int, seq uint64, time int64) api.Event {
	e := api.Event{Kind: kind, Router: router, Seq: seq, Time: time}
	switch kind {
	case api.EventAdd:
		e.Prefix, e.Action = ten, actions[2]
	case api.EventWithdraw:
		e.Prefix = ten
	case api.EventLinkUp:
		e.Iface, e.Peer = 3, 7
	case api.EventLinkDown:
		e.Iface = 3
	}
	return e
}

// early is what happens to 4 and to 2 at the beginning.
func early() []api.Event {
	return []api.Event{
		event(api.EventUp, 4, 1, 5), event(api.EventLinkUp, 4, 2, 8), event(api.EventUp, 2, 1, 6), event(api.EventAdd, 2, 2, 6), event(api.EventAdd, 4, 3, 8), event(api.EventDown, 2, 3, 12),
	}
}

func withFuse(d api.Disk, fuse int) api.Disk {
	d.Fuse = fuse
	return d
}

func off(d api.Disk) api.Disk {
	d.Off = true
	return d
}

// must is the disk that a call answers with OK.
func must(d api.Disk, why api.Errno) api.Disk {
	if why != api.OK {
		panic("error " + strconv.Itoa(int(why)))
	}
	return d
}

func formatted(sectors int) api.Disk {
	return must(hist.Format(sectors))
}

// logged is a disk whose log has those records, whatever they are: the first ones by a switch, each of the others by itself.
func logged(sectors int, first []string, behind ...string) api.Disk {
	d := must(seglog.Switch(must(seglog.Format(sectors)), first...))
	for _, s := range behind {
		d = must(seglog.Append(d, s))
	}
	return d
}

// eventRecords are events' records.
func eventRecords(l ...api.Event) []string {
	var records []string
	for _, e := range l {
		s, why := snap.Event(e)
		if why != api.OK {
			panic("an event without a record")
		}
		records = append(records, s)
	}
	return records
}

func timeRecord(at int64) string {
	s, why := snap.Retain(at)
	if why != api.OK {
		panic("a time without a record")
	}
	return s
}

func pastRecords(p api.Past) []string {
	l, why := snap.Records(p)
	if why != api.OK {
		panic("a past without records")
	}
	return l
}

// taken is a past to which events are known.
func taken(p api.Past, l ...api.Event) api.Past {
	for _, e := range l {
		q, why := past.Take(p, e)
		if why != api.OK {
			panic("an event that is not taken")
		}
		p = q
	}
	return p
}

func retained(p api.Past, at int64) api.Past {
	q, why := past.Retain(p, at)
	if why != api.OK {
		panic("a past that is not retained")
	}
	return q
}

// lived is a disk on which each thing that may be is: a base, events behind it, some in the cache.
func lived() api.Disk {
	d := formatted(34)
	for _, e := range early()[:5] {
		d = must(hist.Accept(d, e))
	}
	d = must(hist.Checkpoint(must(hist.Retain(d, 6))))
	return must(hist.Accept(d, early()[5]))
}

// has holds a disk's past against what it has to be.
func has(t *testing.T, say string, d api.Disk, want api.Past) {
	t.Helper()
	if p, why := hist.Past(d); !same(p, want) || why != api.OK {
		t.Fatalf("%s: the past is %v, error %d, not %v", say, p, why, want)
	}
}

// 30.1

func TestExample(t *testing.T) {
	up := event(api.EventUp, 4, 1, 5)
	d, why := hist.Accept(formatted(26), up)
	if why != api.OK {
		t.Fatalf("Accept: error %d", why)
	}
	has(t, "accepted", d, api.Past{Horizon: -1, Events: []api.Event{up}})
	d, _ = disk.Crash(d, nil, -1, 0)
	has(t, "behind a crash", d, past.Make())
	if d, why = hist.Recover(d); why != api.OK {
		t.Fatalf("Recover: error %d", why)
	}
	has(t, "recovered", d, past.Make())
}

func TestFormatIsALogOfNothing(t *testing.T) {
	for sectors := 10; sectors <= api.MaxSectors; sectors += 1 + sectors/10 {
		want, no := seglog.Format(sectors)
		d, why := hist.Format(sectors)
		if !sameDisk(d, want) || why != no || why != api.OK {
			t.Fatalf("%d sectors: error %d", sectors, why)
		}
		has(t, "formatted", d, past.Make())
	}
	for _, sectors := range []int{math.MinInt, -10, 0, 1, 2, 9, api.MaxSectors + 1, math.MaxInt} {
		if d, why := hist.Format(sectors); !noDisk(d) || why != api.ErrRange {
			t.Errorf("%d sectors: %v, error %d", sectors, d, why)
		}
	}
}

func TestPastIsThatOfTheRecords(t *testing.T) {
	l := eventRecords(early()...)
	all := taken(past.Make(), early()...)
	for _, c := range []struct {
		say  string
		d    api.Disk
		want api.Past
	}{
		{"nothing", logged(26, nil), past.Make()},
		{"events, switched to", logged(26, l), all},
		{"events, one by one", logged(26, nil, l...), all},
		{"the past's own records", logged(26, pastRecords(all)), all},
		{"a past, and events behind", logged(26, pastRecords(retained(taken(past.Make(), early()[:5]...), 6)), l[5]), retained(all, 6)},
		{"events and a time", logged(26, l, timeRecord(7)), retained(all, 7)},
		{"a time amid events", logged(26, l[:2], append([]string{timeRecord(5)}, l[2:]...)...), taken(retained(taken(past.Make(), early()[:2]...), 5), early()[2:]...)},
	} {
		for _, d := range []api.Disk{c.d, withFuse(c.d, 0), withFuse(c.d, 7), must(disk.Flush(c.d))} {
			has(t, c.say, d, c.want)
		}
	}
}

// wrongDisks are not right, though they have a log.
func wrongDisks() []api.Disk {
	d := lived()
	short, many := lived(), lived()
	short.Sectors[33] = short.Sectors[33][1:]
	many.Cache = slices.Repeat(many.Cache[:1], api.MaxCache+1)
	put := lived()
	put.Cache = append(put.Cache, api.Put{At: 34, Data: put.Sectors[0]})
	return []api.Disk{{}, {Fuse: -1}, short, many, put, withFuse(d, -2), withFuse(d, math.MinInt), {Sectors: slices.Repeat(d.Sectors, 40), Fuse: -1}}
}

// broken are right disks that have no past, each with what is told of it.
func broken() map[string]struct {
	d   api.Disk
	why api.Errno
} {
	small := must(disk.Make(9))
	small.Sectors[1], _ = manifest.Put(api.Manifest{Epoch: 1})
	blank := must(disk.Make(26))
	lost := must(seglog.Recover(logged(26, nil, eventRecords(early()...)...)))
	lost.Sectors[4] = blank.Sectors[4]
	up := eventRecords(early()[0])[0]
	return map[string]struct {
		d   api.Disk
		why api.Errno
	}{
		"nine sectors":                     {small, api.ErrRange},
		"off":                              {off(lived()), api.ErrPower},
		"off, and no past":                 {off(logged(26, []string{"x"})), api.ErrPower},
		"no log":                           {blank, api.ErrNone},
		"a page that is lost":              {lost, api.ErrCode},
		"no record of a past":              {logged(26, []string{"x"}), api.ErrCode},
		"an empty record":                  {logged(26, nil, ""), api.ErrCode},
		"an event twice":                   {logged(26, nil, up, up), api.ErrCode},
		"an event that was not next":       {logged(26, nil, eventRecords(early()[1])...), api.ErrCode},
		"a router without a horizon":       {logged(26, []string{"\x02\x04\x01\x05\x01"}), api.ErrCode},
		"a horizon behind events":          {logged(26, nil, up, "\x01\x01"), api.ErrCode},
		"a time ahead of another one":      {logged(26, nil, timeRecord(8), timeRecord(7)), api.ErrCode},
		"an event at the horizon":          {logged(26, nil, timeRecord(5), up), api.ErrCode},
		"no record of a past, a fuse of 0": {withFuse(logged(26, []string{"x"}), 0), api.ErrCode},
	}
}

// step is one of the things that a call does to a disk, or a call.
type step func(api.Disk) (api.Disk, api.Errno)

func accepts(e api.Event) step {
	return func(d api.Disk) (api.Disk, api.Errno) { return hist.Accept(d, e) }
}

func retains(at int64) step {
	return func(d api.Disk) (api.Disk, api.Errno) { return hist.Retain(d, at) }
}

func appends(records ...string) step {
	return func(d api.Disk) (api.Disk, api.Errno) { return seglog.Append(d, records...) }
}

func switches(records ...string) step {
	return func(d api.Disk) (api.Disk, api.Errno) { return seglog.Switch(d, records...) }
}

// changes are all calls that answer a disk, with all sorts of arguments.
func changes() map[string]step {
	return map[string]step{
		"Accept": accepts(event(api.EventUp, 9, 1, 20)), "Accept of another kind": accepts(event(api.EventAdd, 4, 4, 20)),
		"Accept of none": accepts(api.Event{}), "Accept of one that is not next": accepts(event(api.EventUp, 9, 2, 20)), "Accept of one too early": accepts(event(api.EventUp, 9, 1, 0)),
		"Sync": hist.Sync, "Checkpoint": hist.Checkpoint, "Recover": hist.Recover,
		"Retain": retains(20), "Retain to a time that went": retains(0), "Retain to none": retains(-1), "Retain to one too great": retains(api.MaxTime + 1),
	}
}

func TestWhatHasNoPast(t *testing.T) {
	for i, d := range wrongDisks() {
		for _, d := range []api.Disk{d, off(d)} {
			if p, why := hist.Past(d); !same(p, api.Past{}) || why != api.ErrForm {
				t.Errorf("disk %d: %v, error %d", i, p, why)
			}
			for name, call := range changes() {
				if e, why := call(d); !noDisk(e) || why != api.ErrForm {
					t.Errorf("disk %d: %s: error %d, nothing beside it: %v", i, name, why, noDisk(e))
				}
			}
		}
	}
	for say, b := range broken() {
		if p, why := hist.Past(b.d); !same(p, api.Past{}) || why != b.why {
			t.Errorf("%s: %v, error %d, not %d", say, p, why, b.why)
		}
		for name, call := range changes() {
			if e, why := call(b.d); !sameDisk(e, b.d) || why != b.why {
				t.Errorf("%s: %s: error %d, not %d, as it was: %v", say, name, why, b.why, sameDisk(e, b.d))
			}
		}
	}
}

// 30.2

// does holds a call against the steps that it has to do up to the first error, with power for all of them and for some of them.
func does(t *testing.T, say string, d api.Disk, call step, steps ...step) {
	t.Helper()
	for fuse := -1; fuse < 12; fuse++ {
		want, no := withFuse(d, fuse), api.OK
		for _, s := range steps {
			if want, no = s(want); no != api.OK {
				break
			}
		}
		if e, why := call(withFuse(d, fuse)); !sameDisk(e, want) || why != no {
			t.Errorf("%s, a fuse of %d: error %d, not %d", say, fuse, why, no)
		}
	}
}

// full is a disk of whose log all is in use, up to the last page.
func full() (api.Disk, api.Past) {
	d, p := formatted(26), past.Make()
	for i := range 24 {
		e := event(kinds[i%2], 4, uint64(i)+1, int64(i)+1)
		d, p = must(hist.Accept(d, e)), taken(p, e)
	}
	return d, p
}

// disks are some that have a past.
func disks() map[string]api.Disk {
	whole, _ := full()
	crowd := lived()
	crowd.Cache = slices.Repeat([]api.Put{{At: 33, Data: crowd.Sectors[33]}}, api.MaxCache)
	return map[string]api.Disk{
		"formatted": formatted(26), "the smallest": formatted(10), "lived": lived(), "flushed": must(disk.Flush(lived())), "recovered": must(hist.Recover(lived())),
		"full": whole, "a full cache": crowd, "the last epoch": epoch(1 << 45), "the last epoch but one": epoch(1<<45 - 1), "the greatest epoch": epoch(api.MaxTag),
		"of events alone": logged(26, eventRecords(early()...)), "another router": logged(26, nil, eventRecords(event(api.EventUp, 9, 1, 5))...),
	}
}

// epoch is a disk of a log of no records, whose manifest has that epoch.
func epoch(n uint64) api.Disk {
	d := must(disk.Make(26))
	d.Sectors[n%2], _ = manifest.Put(api.Manifest{Epoch: n})
	return d
}

func TestAcceptAppendsARecord(t *testing.T) {
	seen := map[api.Errno]int{}
	events := append(early(), event(api.EventUp, 9, 1, 20), event(api.EventAdd, 4, 4, 20), event(api.EventDown, 9, 2, 20), event(api.EventUp, 2, 4, 20), event(api.EventUp, 4, 4, 20),
		event(api.EventUp, 4, 25, 25), event(api.EventUp, 9, 1, 0), event(api.EventUp, 9, 1, api.MaxTime), api.Event{}, event(api.EventCount, 4, 1, 5), event(api.EventUp, 9, 0, 20))
	for say, d := range disks() {
		p, _ := hist.Past(d)
		for _, e := range events {
			q, no := past.Take(p, e)
			if no == api.OK {
				does(t, say, d, accepts(e), appends(eventRecords(e)...))
			} else {
				does(t, say, d, accepts(e), func(d api.Disk) (api.Disk, api.Errno) { return d, no })
			}
			next, why := hist.Accept(d, e)
			if seen[why]++; why == api.OK {
				has(t, say, next, q)
			} else if !sameDisk(next, d) {
				t.Errorf("%s: error %d, and the disk is not as it was", say, why)
			}
		}
	}
	for _, why := range []api.Errno{api.OK, api.ErrForm, api.ErrSeq, api.ErrTime, api.ErrState, api.ErrRouter, api.ErrFull} {
		if seen[why] == 0 {
			t.Errorf("no sample has the error %d", why)
		}
	}
}

// The log has a record an event, and no other one, whatever is asked amid them.
func TestTheLogHasARecordAnEvent(t *testing.T) {
	d := formatted(34)
	for i, e := range early() {
		d = must(hist.Accept(d, e))
		if i == 2 {
			d = must(hist.Sync(d))
		}
		if i == 3 {
			d = must(hist.Recover(d))
		}
	}
	l, why := seglog.Records(d)
	if !slices.Equal(l, eventRecords(early()...)) || why != api.OK {
		t.Fatalf("accepted: %q, error %d", l, why)
	}
	d = must(hist.Retain(d, 6))
	l, _ = seglog.Records(d)
	if !slices.Equal(l, append(eventRecords(early()...), "\x06\x06")) || len(d.Cache) != 0 {
		t.Fatalf("retained: %q, %d writes in the cache", l, len(d.Cache))
	}
	d = must(hist.Checkpoint(d))
	l, _ = seglog.Records(d)
	if !slices.Equal(l, pastRecords(retained(taken(past.Make(), early()...), 6))) {
		t.Fatalf("laid anew: %q", l)
	}
}

func TestSyncFlushes(t *testing.T) {
	for say, d := range disks() {
		does(t, say, d, hist.Sync, disk.Flush)
		has(t, say, must(disk.Crash(must(hist.Sync(d)), nil, -1, 0)), pastOf(t, d))
	}
}

// pastOf is the past of a disk that has one.
func pastOf(t *testing.T, d api.Disk) api.Past {
	t.Helper()
	p, why := hist.Past(d)
	if why != api.OK {
		t.Fatalf("Past: error %d", why)
	}
	return p
}

func TestCheckpointSwitches(t *testing.T) {
	seen := map[api.Errno]int{}
	for say, d := range disks() {
		p := pastOf(t, d)
		does(t, say, d, hist.Checkpoint, switches(pastRecords(p)...))
		e, why := hist.Checkpoint(d)
		if seen[why]++; why == api.ErrFull && !sameDisk(e, d) {
			t.Errorf("%s: refused, and the disk is not as it was", say)
		}
		if why == api.OK {
			has(t, say, must(disk.Crash(e, nil, -1, 0)), p)
		}
	}
	if seen[api.OK] == 0 || seen[api.ErrFull] == 0 {
		t.Errorf("the samples' errors are %v", seen)
	}
}

func TestRetainAppendsATimeAndFlushes(t *testing.T) {
	seen := map[api.Errno]int{}
	for say, d := range disks() {
		p := pastOf(t, d)
		for _, at := range []int64{0, 1, 5, 6, 7, 8, 12, 20, 127, 128, api.MaxTime - 1, api.MaxTime, -1, -2, math.MinInt64, api.MaxTime + 1, math.MaxInt64} {
			q, no := past.Retain(p, at)
			if no == api.OK {
				does(t, say, d, retains(at), appends(timeRecord(at)), disk.Flush)
			} else {
				does(t, say, d, retains(at), func(d api.Disk) (api.Disk, api.Errno) { return d, no })
			}
			e, why := hist.Retain(d, at)
			if seen[why]++; why == api.OK {
				has(t, say, must(disk.Crash(e, nil, -1, 0)), q)
			} else if !sameDisk(e, d) {
				t.Errorf("%s: error %d, and the disk is not as it was", say, why)
			}
		}
	}
	for _, why := range []api.Errno{api.OK, api.ErrRange, api.ErrExpired, api.ErrFull} {
		if seen[why] == 0 {
			t.Errorf("no sample has the error %d", why)
		}
	}
}

func TestRecoverIsTheLogs(t *testing.T) {
	for say, d := range disks() {
		does(t, say, d, hist.Recover, seglog.Recover)
	}
}

// Where an event or a time is refused by the past, that is told ahead of a log without room, and of a fuse that is burnt.
func TestThePastRefusesFirst(t *testing.T) {
	d, p := full()
	for _, c := range []struct {
		call step
		why  api.Errno
	}{
		{accepts(event(api.EventUp, 9, 1, 20)), api.ErrFull}, {accepts(event(api.EventUp, 9, 2, 20)), api.ErrSeq}, {accepts(api.Event{}), api.ErrForm}, {accepts(event(api.EventDown, 9, 1, 20)), api.ErrRouter},
		{retains(7), api.ErrFull}, {retains(-1), api.ErrRange}, {retains(api.MaxTime + 1), api.ErrRange},
	} {
		for _, fuse := range []int{-1, 0, 1} {
			if e, why := c.call(withFuse(d, fuse)); !sameDisk(e, withFuse(d, fuse)) || why != c.why {
				t.Errorf("a fuse of %d: error %d, not %d", fuse, why, c.why)
			}
		}
	}
	has(t, "full", d, p)
}

// An event is refused for want of room by the past's own limits, too; what is forgotten makes room for it.
func TestAPastThatIsFull(t *testing.T) {
	p := api.Past{Horizon: -1}
	for i := range api.MaxEvents {
		p.Events = append(p.Events, event(kinds[i%2], 4, uint64(i)+1, int64(i)+1))
	}
	d := logged(api.MaxSectors, pastRecords(p))
	more := event(api.EventUp, 9, 1, 2000)
	if e, why := hist.Accept(d, more); !sameDisk(e, d) || why != api.ErrFull {
		t.Errorf("an event too many: error %d", why)
	}
	d = must(hist.Retain(d, 1))
	d, why := hist.Accept(d, more)
	if why != api.OK {
		t.Fatalf("forgotten: error %d", why)
	}
	has(t, "an event more", d, taken(retained(p, 1), more))
	d, why = hist.Checkpoint(d)
	if why != api.OK {
		t.Fatalf("Checkpoint: error %d", why)
	}
	has(t, "laid anew", d, taken(retained(p, 1), more))
}

// 30.3

// changed are the disks that all sorts of calls answer, in one order.
func changed(d api.Disk) []api.Disk {
	var l []api.Disk
	for _, d := range []api.Disk{d, withFuse(d, 0), withFuse(d, 2), off(d)} {
		for _, call := range []step{accepts(event(api.EventUp, 9, 1, 20)), accepts(api.Event{}), accepts(event(api.EventUp, 9, 2, 20)), hist.Sync, hist.Checkpoint, hist.Recover, retains(20), retains(0), retains(-1)} {
			e, _ := call(d)
			l = append(l, e)
		}
	}
	return l
}

// ownTexts is a disk whose texts are each in memory of their own.
func ownTexts(d api.Disk) api.Disk {
	for i, s := range d.Sectors {
		d.Sectors[i] = strings.Clone(s)
	}
	return d
}

func TestDisksAreNewMemory(t *testing.T) {
	d, was := ownTexts(lived()), lived()
	told, again := append(changed(d), changed(d)...), changed(was)
	at := map[*byte]int{}
	for i, e := range append(slices.Clone(told), d) {
		texts := slices.Clone(e.Sectors)
		for _, p := range e.Cache {
			texts = append(texts, p.Data)
		}
		for _, s := range texts {
			if by, is := at[unsafe.StringData(s)]; is {
				t.Fatalf("answers %d and %d share a text", by, i)
			}
			at[unsafe.StringData(s)] = i
		}
	}
	for i, e := range told {
		clear(e.Sectors[:cap(e.Sectors)])
		clear(e.Cache[:cap(e.Cache)])
		if !sameDisk(d, was) {
			t.Fatalf("answer %d shares memory with an argument", i)
		}
		for k, later := range told[i+1:] {
			if !sameDisk(later, again[(i+1+k)%len(again)]) {
				t.Fatalf("answer %d shares memory with another one", i)
			}
		}
	}
}

func TestPastsAreNewMemory(t *testing.T) {
	d := lived()
	a, b, want := pastOf(t, d), pastOf(t, d), pastOf(t, d)
	clear(a.Events[:cap(a.Events)])
	clear(a.Base.Seats[:cap(a.Base.Seats)])
	for _, r := range a.Base.Routers {
		clear(r.Routes[:cap(r.Routes)])
		clear(r.Links[:cap(r.Links)])
	}
	clear(a.Base.Routers[:cap(a.Base.Routers)])
	if !same(b, want) || !sameDisk(d, lived()) {
		t.Error("two answers share memory")
	}
	if clear(d.Sectors); !same(b, want) {
		t.Error("a past shares memory with its disk")
	}
}

// What is handed in stays as it is, and so does the room behind it, which is the caller's.
func TestWhatIsHandedInIsLeftAlone(t *testing.T) {
	d := lived()
	d.Cache = append(make([]api.Put, 0, 9), d.Cache...)
	d.Sectors = append(make([]string, 0, 50), d.Sectors...)
	many := len(d.Cache)
	changed(d)
	pastOf(t, d)
	if !sameDisk(d, lived()) || !slices.Equal(d.Cache[:9][many:], make([]api.Put, 9-many)) || !slices.Equal(d.Sectors[:50][34:], make([]string, 16)) {
		t.Error("what was handed in has changed")
	}
}

// 30.4 to 30.6

// player plays a disk that loses its power, beside what it has to have: pasts are those of what was accepted and retained up to each place; what is ahead of the place sure is there for good. The horizon is the greatest one that was told.
type player struct {
	t       *testing.T
	say     string
	d       api.Disk
	pasts   []api.Past
	sure    int
	horizon int64
}

func newPlayer(t *testing.T, say string, d api.Disk) player {
	return player{t: t, say: say, d: d, pasts: []api.Past{past.Make()}, horizon: -1}
}

func (w *player) now() api.Past { return w.pasts[len(w.pasts)-1] }

// holds holds the past against what it has to be while the power is there.
func (w *player) holds() {
	w.t.Helper()
	has(w.t, w.say, w.d, w.now())
	w.told()
}

// told holds that the horizon that is told has not fallen.
func (w *player) told() {
	w.t.Helper()
	p := pastOf(w.t, w.d)
	if p.Horizon < w.horizon {
		w.t.Fatalf("%s: the horizon fell from %d to %d", w.say, w.horizon, p.Horizon)
	}
	w.horizon = p.Horizon
}

// does has a call be done that has the past be what turn makes of it; last tells whether with OK all is there for good. What turn refuses the call refuses. If the power goes, what it makes may have come to be, or not.
func (w *player) does(call step, turn func(api.Past) (api.Past, api.Errno), last bool) {
	w.t.Helper()
	next, no := turn(w.now())
	e, why := call(w.d)
	if no != api.OK && why != no || no == api.OK && why != api.OK && why != api.ErrFull && why != api.ErrPower {
		w.t.Fatalf("%s: error %d, and the past's is %d", w.say, why, no)
	}
	switch {
	case why == api.OK || why == api.ErrPower:
		w.d, w.pasts = e, append(slices.Clone(w.pasts), next)
	case !sameDisk(e, w.d):
		w.t.Fatalf("%s: error %d, and the disk is not as it was", w.say, why)
	}
	if why == api.OK && last {
		w.sure = len(w.pasts) - 1
	}
	if why != api.ErrPower {
		w.holds()
	}
}

func (w *player) accept(e api.Event) {
	w.t.Helper()
	w.does(accepts(e), func(p api.Past) (api.Past, api.Errno) { return past.Take(p, e) }, false)
}

func (w *player) retain(at int64) {
	w.t.Helper()
	w.does(retains(at), func(p api.Past) (api.Past, api.Errno) { return past.Retain(p, at) }, true)
}

// keeps has a call be done that changes no past.
func (w *player) keeps(call step) {
	w.t.Helper()
	w.does(call, func(p api.Past) (api.Past, api.Errno) { return p, api.OK }, true)
}

// crash has the power go and come, and finds out how far the past is that is there.
func (w *player) crash(keep []bool, torn, bytes int) {
	w.t.Helper()
	w.d, _ = disk.Crash(w.d, keep, torn, bytes)
	p, why := hist.Past(w.d)
	at := len(w.pasts) - 1
	for at >= w.sure && !same(p, w.pasts[at]) {
		at--
	}
	if why != api.OK || at < w.sure {
		w.t.Fatalf("%s: behind a crash the past is %v, of %v, %d of them sure, error %d", w.say, p, w.pasts, w.sure, why)
	}
	w.pasts, w.sure = w.pasts[:at+1], at
	w.told()
}

// recover asks for a recovery with so much power, and tells whether it was enough. It changes no past.
func (w *player) recover(fuse int) bool {
	w.t.Helper()
	e, why := hist.Recover(withFuse(w.d, fuse))
	if why != api.OK && why != api.ErrPower {
		w.t.Fatalf("%s: Recover: error %d", w.say, why)
	}
	w.d = e
	if why == api.OK {
		w.d.Fuse = -1
		w.holds()
	}
	return why == api.OK
}

// someEvent is one that fits most of the time.
func (w *player) someEvent(r *rand.Rand) api.Event {
	p := w.now()
	n, why := past.Now(p)
	if why != api.OK {
		w.t.Fatalf("Now: error %d", why)
	}
	id := r.Intn(4) * 100
	seat := api.Seat{Router: id}
	for _, s := range n.Seats {
		if s.Router == id {
			seat = s
		}
	}
	kind := api.EventUp
	if seat.Up {
		kind = kinds[1+r.Intn(5)]
	}
	e := event(kind, id, seat.Seq+1, max(seat.Time, p.Horizon+1)+int64(r.Intn(3)))
	switch {
	case r.Intn(10) == 0:
		e.Seq += uint64(r.Intn(3)) - 1
	case r.Intn(10) == 0:
		e.Time--
	case kind == api.EventAdd && r.Intn(2) == 0:
		e.Prefix, e.Action = far, actions[r.Intn(3)]
	case kind == api.EventLinkUp:
		e.Iface, e.Peer = r.Intn(3), r.Intn(4)*100
	}
	return e
}

func someKeep(r *rand.Rand, many int) []bool {
	keep := make([]bool, many)
	for i := range keep {
		keep[i] = r.Intn(3) != 0
	}
	return keep
}

func (w *player) someCrash(r *rand.Rand) {
	w.t.Helper()
	w.crash(someKeep(r, len(w.d.Cache)), r.Intn(len(w.d.Cache)+1)-1, r.Intn(130))
}

// A disk is played by chance, the power going at any time, in a recovery, too.
func TestPlayed(t *testing.T) {
	lost, kept := 0, 0
	for seed := range 500 {
		r := rand.New(rand.NewSource(int64(seed)))
		w := newPlayer(t, "seed "+strconv.Itoa(seed), formatted(10+r.Intn(60)))
		for range 50 {
			if r.Intn(4) == 0 && !w.d.Off {
				w.d.Fuse = r.Intn(14) - 1
			}
			switch r.Intn(16) {
			default:
				w.accept(w.someEvent(r))
			case 0:
				w.keeps(hist.Sync)
			case 1, 2:
				w.keeps(hist.Checkpoint)
			case 3:
				w.retain(max(w.now().Horizon, 0) + int64(r.Intn(4)) - int64(r.Intn(8)/7))
			case 4:
				w.keeps(hist.Recover)
			case 5:
				was := len(w.pasts)
				w.someCrash(r)
				for lost += was - len(w.pasts); !w.recover(r.Intn(6) - 1); {
					w.someCrash(r)
				}
			}
			for w.d.Off {
				w.someCrash(r)
				w.recover(r.Intn(6) - 1)
			}
		}
		kept += len(w.pasts)
	}
	if lost < 100 || kept < 2000 {
		t.Errorf("only %d were lost, and %d kept", lost, kept)
	}
}

// script plays a disk on which each thing that a call does comes to be, as far as the power lasts.
func (w *player) script() {
	for _, do := range []func(){
		func() { w.accept(early()[0]) },
		func() { w.accept(early()[1]) },
		func() { w.keeps(hist.Sync) },
		func() { w.accept(early()[2]) },
		func() { w.accept(early()[3]) },
		func() { w.retain(5) },
		func() { w.accept(early()[4]) },
		func() { w.keeps(hist.Checkpoint) },
		func() { w.accept(early()[5]) },
		func() { w.retain(8) },
		func() { w.accept(event(api.EventUp, 9, 1, 20)) },
		func() { w.keeps(hist.Checkpoint) },
		func() { w.accept(event(api.EventAdd, 4, 4, 20)) },
	} {
		if !w.d.Off {
			do()
		}
	}
}

// One script is cut off at each write and flush, with each of the writes in the cache torn, the others kept or not; the recovery behind it is cut off, too.
func TestCutOffAnywhere(t *testing.T) {
	cut := player{d: off(api.Disk{})}
	for fuse := 0; cut.d.Off; fuse++ {
		cut = newPlayer(t, "a fuse of "+strconv.Itoa(fuse), withFuse(formatted(26), fuse))
		cut.script()
		many := len(cut.d.Cache)
		for torn := -1; torn < many; torn++ {
			for _, bytes := range []int{0, 7, 8, 60, 120, 127, 128} {
				for kept := range 1 << min(many, 4) {
					keep := make([]bool, many)
					for i := range keep {
						keep[i] = kept>>(i%4)&1 == 1
					}
					w := cut
					w.crash(keep, torn, bytes)
					for again := range 3 {
						w.cutRecovery(again)
					}
				}
			}
		}
	}
	if cut.sure < 10 {
		t.Errorf("the script was not played to its end: %v", cut.pasts)
	}
}

// cutRecovery cuts a recovery off, recovers, and has an event last; the player stays as it is.
func (w player) cutRecovery(fuse int) {
	w.t.Helper()
	if !w.recover(fuse) {
		w.crash([]bool{fuse%2 == 0}, 0, 100)
		if !w.recover(-1) {
			w.t.Fatalf("%s: no recovery with all the power", w.say)
		}
	}
	last := event(api.EventUp, 777, 1, 50)
	w.accept(last)
	w.keeps(hist.Sync)
	w.crash(nil, -1, 0)
	if l := w.now().Events; len(l) == 0 || l[len(l)-1] != last {
		w.t.Fatalf("%s: what was accepted behind a recovery, and synced, is gone: %v", w.say, w.now())
	}
}

func TestNoPastIsChanged(t *testing.T) {
	for say, d := range disks() {
		p := pastOf(t, d)
		for _, calls := range [][]step{{hist.Checkpoint}, {hist.Sync}, {hist.Recover}, {hist.Checkpoint, hist.Checkpoint}, {hist.Sync, hist.Recover, hist.Checkpoint, hist.Recover, hist.Sync}} {
			e := d
			for _, call := range calls {
				e, _ = call(e)
				has(t, say, e, p)
			}
		}
	}
}

// What is accepted amid checkpoints, syncs and recoveries is what is accepted without them.
func TestWhereverTheyArePutIn(t *testing.T) {
	for seed := range 60 {
		r := rand.New(rand.NewSource(int64(seed)))
		w := newPlayer(t, "seed "+strconv.Itoa(seed), formatted(100))
		plain := w.d
		for range 30 {
			e := w.someEvent(r)
			w.accept(e)
			plain, _ = hist.Accept(plain, e)
			switch r.Intn(9) {
			case 0:
				w.keeps(hist.Sync)
			case 1:
				w.keeps(hist.Recover)
				w.keeps(hist.Checkpoint) // a recovery takes room
			case 2:
				w.keeps(hist.Checkpoint)
			}
		}
		has(t, w.say, plain, w.now())
	}
}

// P1, P3, P4

// Anything that may be in a log's records, and on a disk, comes to an answer, and beside an error of a right disk that is as it was.
func FuzzAnyDisk(f *testing.F) {
	f.Add("\x01\x0e", "\x02\x02\x03\x06\x01", "\x05\x01\x04\x01\x08", "", 26, -1, false, uint8(1), 9, uint64(1), int64(20))
	f.Add("\x05\x01\x04\x01\x08", "\x06\x08", "x", "", 10, 2, false, uint8(2), 4, uint64(2), int64(9))
	f.Add("", "", "", strings.Repeat("\x00", 128), 40, 0, true, uint8(0), -1, uint64(0), int64(-1))
	f.Fuzz(func(t *testing.T, a, b, c, sector string, sectors, fuse int, isOff bool, kind uint8, router int, seq uint64, at int64) {
		d, why := hist.Format(min(sectors, 60))
		if why != api.OK {
			return
		}
		d, _ = seglog.Append(d, a, b)
		d, _ = seglog.Append(d, c)
		if sector != "" {
			d.Sectors[len(d.Sectors)/2] = sector
		}
		d.Fuse, d.Off = fuse, isOff
		p, no := hist.Past(d)
		if no != api.OK && !same(p, api.Past{}) || no == api.OK && past.Check(p) != api.OK {
			t.Fatalf("error %d, and the past is %v", no, p)
		}
		for _, call := range []step{accepts(event(api.EventKind(kind), router, seq, at)), hist.Sync, hist.Checkpoint, retains(at), hist.Recover} {
			e, why := call(d)
			if is := disk.Check(d); is != api.OK && (why != is || !noDisk(e)) || is == api.OK && disk.Check(e) != api.OK {
				t.Fatalf("error %d, and the disk's is %d", why, is)
			}
			if no != api.OK && (why != no || disk.Check(d) == api.OK && !sameDisk(e, d)) {
				t.Fatalf("error %d, and the past's is %d", why, no)
			}
		}
	})
}

// Nil and empty lists are alike, and a call that is asked again answers the same.
func TestAnswersHangOnArgumentsAlone(t *testing.T) {
	for _, cache := range [][]api.Put{nil, {}, make([]api.Put, 0, 7)} {
		d := must(disk.Flush(lived()))
		want := changed(d)
		d.Cache = cache
		for i, e := range changed(d) {
			if !sameDisk(e, want[i]) {
				t.Fatalf("answer %d is another one", i)
			}
		}
		has(t, "flushed", d, pastOf(t, lived()))
	}
}

func TestNoGoroutineIsLeft(t *testing.T) {
	before := runtime.NumGoroutine()
	changed(lived())
	pastOf(t, lived())
	if after := runtime.NumGoroutine(); after > before {
		t.Errorf("%d goroutines, and %d ahead of the calls", after, before)
	}
}
