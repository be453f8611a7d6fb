package line_test

import (
	"fmt"
	"math"
	"math/rand"
	"runtime"
	"slices"
	"testing"

	"spoor/api"
	"spoor/ivl"
	"spoor/line"
)

// The calls have the signatures of doc/20-line.md.
var (
	_ func(api.Ivl, []api.Era) api.Errno                           = line.Check
	_ func(api.Ivl, ...api.Mark) ([]api.Era, api.Errno)            = line.Make
	_ func(api.Ivl, []api.Era, int64) (api.Verdict, api.Errno)     = line.At
	_ func(api.Ivl, []api.Era, api.Verdict) ([]api.Ivl, api.Errno) = line.When
	_ func(api.Ivl, []api.Era, api.Ivl) ([]api.Era, api.Errno)     = line.Cut
	_ func(api.Ivl, []api.Era, []api.Era) ([]api.Ivl, api.Errno)   = line.Differ
)

const (
	last  = int64(1) << 40 // MaxTime
	limit = 1024           // MaxIvls
	most  = int64(math.MaxInt64)
	least = int64(math.MinInt64)
)

var (
	lost      = api.Verdict{Kind: api.VerdictLost, At: 1}
	there     = api.Verdict{Kind: api.VerdictDelivered, At: 2}
	elsewhere = api.Verdict{Kind: api.VerdictDelivered, At: 3}
	thrown    = api.Verdict{Kind: api.VerdictDiscarded, At: 2}
	round     = api.Verdict{Kind: api.VerdictLooping, At: 1 << 20}
	always    = api.Ivl{To: last}
	ten       = api.Ivl{To: 9}
)

// verdicts are right ones; two of them have the same Kind, two the same At.
var verdicts = []api.Verdict{lost, there, elsewhere, thrown, round}

// wrongVerdicts are not right.
var wrongVerdicts = []api.Verdict{
	{}, {At: 5}, {Kind: api.VerdictCount, At: 5}, {Kind: 5}, {Kind: 255, At: 5}, {Kind: api.VerdictLost, At: -1}, {Kind: api.VerdictLost, At: 1<<20 + 1},
	{Kind: api.VerdictLooping, At: math.MaxInt}, {Kind: api.VerdictDelivered, At: math.MinInt},
}

// wrongWindows are intervals that are not right.
var wrongWindows = []api.Ivl{
	{From: 3, To: 2}, {From: -1, To: 5}, {From: 0, To: last + 1}, {From: last + 1, To: last + 1}, {From: least, To: most}, {From: most, To: most}, {From: most, To: least},
	{From: -5, To: -3}, {From: 0, To: -1},
}

func from(a, b int64) api.Ivl {
	return api.Ivl{From: a, To: b}
}

func in(a, b int64, v api.Verdict) api.Era {
	return api.Era{Ivl: from(a, b), Verdict: v}
}

func mark(t int64, v api.Verdict) api.Mark {
	return api.Mark{Time: t, Verdict: v}
}

// turning is a line of eras of that many times each, from first on, of two verdicts in turn; and its window.
func turning(first int64, many int, long int64, a, b api.Verdict) (api.Ivl, []api.Era) {
	var l []api.Era
	for i := range int64(many) {
		l = append(l, in(first+i*long, first+(i+1)*long-1, a))
		a, b = b, a
	}
	return from(first, first+int64(many)*long-1), l
}

// What follows is plain, time by time, of short windows.

func plainVerdict(v api.Verdict) bool {
	switch v.Kind {
	case api.VerdictDelivered, api.VerdictDiscarded, api.VerdictLost, api.VerdictLooping:
		return v.At >= 0 && v.At <= 1<<20
	}
	return false
}

func plainRight(i api.Ivl) bool {
	return 0 <= i.From && i.From <= i.To && i.To <= last
}

// plainCheck looks from the end on, with no sum that could be too great.
func plainCheck(w api.Ivl, l []api.Era) api.Errno {
	if !plainRight(w) || len(l) < 1 || len(l) > limit || l[0].Ivl.From != w.From || l[len(l)-1].Ivl.To != w.To {
		return api.ErrForm
	}
	for i := len(l) - 1; i >= 0; i-- {
		e := l[i]
		if !plainRight(e.Ivl) || !plainVerdict(e.Verdict) {
			return api.ErrForm
		}
		if i > 0 && (l[i-1].Verdict == e.Verdict || l[i-1].Ivl.To != e.Ivl.From-1) {
			return api.ErrForm
		}
	}
	return api.OK
}

// told is what is told of each time of a short window: those of eras.
func told(l []api.Era) map[int64]api.Verdict {
	m := map[int64]api.Verdict{}
	for _, e := range l {
		for t := e.Ivl.From; t <= e.Ivl.To; t++ {
			m[t] = e.Verdict
		}
	}
	return m
}

// lineOf is the line of a short window that tells that of each time.
func lineOf(w api.Ivl, at func(int64) api.Verdict) []api.Era {
	var l []api.Era
	for t := w.From; t <= w.To; t++ {
		if n := len(l) - 1; n >= 0 && l[n].Verdict == at(t) {
			l[n].Ivl.To = t
		} else {
			l = append(l, in(t, t, at(t)))
		}
	}
	return l
}

// rowOf is the row of the times of a short window of which that is so.
func rowOf(w api.Ivl, is func(int64) bool) []api.Ivl {
	var l []api.Ivl
	for t := w.From; t <= w.To; t++ {
		if !is(t) {
			continue
		}
		if n := len(l) - 1; n >= 0 && l[n].To == t-1 {
			l[n].To = t
		} else {
			l = append(l, from(t, t))
		}
	}
	return l
}

// lastMark is the Verdict of the last mark that is not later.
func lastMark(marks []api.Mark, t int64) api.Verdict {
	var v api.Verdict
	for _, m := range marks {
		if m.Time <= t {
			v = m.Verdict
		}
	}
	return v
}

// someWindow is a short one, by chance, at the ends of all times or amid them.
func someWindow(r *rand.Rand) api.Ivl {
	long := 1 + r.Int63n(40)
	first := []int64{0, 0, 100, 1<<32 - 10, last - long + 1}[r.Intn(5)]
	return from(first, first+long-1)
}

// someMarks are right ones of a window, by chance.
func someMarks(r *rand.Rand, w api.Ivl) []api.Mark {
	l := []api.Mark{mark(w.From, verdicts[r.Intn(len(verdicts))])}
	for t := w.From + 1; t <= w.To; t++ {
		if r.Intn(3) == 0 {
			l = append(l, mark(t, verdicts[r.Intn(len(verdicts))]))
		}
	}
	return l
}

// someLine is a right one of a window, by chance, made plainly.
func someLine(r *rand.Rand, w api.Ivl) []api.Era {
	marks := someMarks(r, w)
	return lineOf(w, func(t int64) api.Verdict { return lastMark(marks, t) })
}

// 20.1

func TestCheckAtTheEdges(t *testing.T) {
	manyWindow, many := turning(0, limit, 1, lost, there)
	moreWindow, more := turning(0, limit+1, 1, lost, there)
	for _, c := range []struct {
		say  string
		w    api.Ivl
		l    []api.Era
		want api.Errno
	}{
		{"the example", ten, []api.Era{in(0, 4, lost), in(5, 9, there)}, api.OK},
		{"one era", ten, []api.Era{in(0, 9, lost)}, api.OK},
		{"one time", from(5, 5), []api.Era{in(5, 5, lost)}, api.OK},
		{"the first time", from(0, 0), []api.Era{in(0, 0, lost)}, api.OK},
		{"the last time", from(last, last), []api.Era{in(last, last, lost)}, api.OK},
		{"all times", always, []api.Era{in(0, last, lost)}, api.OK},
		{"all times, in two", always, []api.Era{in(0, last-1, lost), in(last, last, there)}, api.OK},
		{"At is 0", ten, []api.Era{in(0, 9, api.Verdict{Kind: api.VerdictLost})}, api.OK},
		{"At is MaxId", ten, []api.Era{in(0, 9, round)}, api.OK},
		{"no two neighbours alike", ten, []api.Era{in(0, 2, lost), in(3, 3, there), in(4, 9, lost)}, api.OK},
		{"the same Kind elsewhere", ten, []api.Era{in(0, 2, there), in(3, 9, elsewhere)}, api.OK},
		{"another Kind there", ten, []api.Era{in(0, 2, there), in(3, 9, thrown)}, api.OK},
		{"nil", ten, nil, api.ErrForm},
		{"none", ten, []api.Era{}, api.ErrForm},
		{"it begins too late", ten, []api.Era{in(1, 9, lost)}, api.ErrForm},
		{"it begins too soon", from(1, 9), []api.Era{in(0, 9, lost)}, api.ErrForm},
		{"it begins below 0", ten, []api.Era{in(-1, 9, lost)}, api.ErrForm},
		{"it ends too soon", ten, []api.Era{in(0, 8, lost)}, api.ErrForm},
		{"it ends too late", ten, []api.Era{in(0, 10, lost)}, api.ErrForm},
		{"it ends above MaxTime", always, []api.Era{in(0, last+1, lost)}, api.ErrForm},
		{"the second ends too late", ten, []api.Era{in(0, 4, lost), in(5, 10, there)}, api.ErrForm},
		{"a gap", ten, []api.Era{in(0, 4, lost), in(6, 9, there)}, api.ErrForm},
		{"a time twice", ten, []api.Era{in(0, 5, lost), in(5, 9, there)}, api.ErrForm},
		{"one within another", ten, []api.Era{in(0, 9, lost), in(4, 9, there)}, api.ErrForm},
		{"neighbours alike", ten, []api.Era{in(0, 4, lost), in(5, 9, lost)}, api.ErrForm},
		{"the last neighbours alike", ten, []api.Era{in(0, 4, lost), in(5, 5, there), in(6, 9, there)}, api.ErrForm},
		{"falling", ten, []api.Era{in(5, 9, lost), in(0, 4, there)}, api.ErrForm},
		{"an empty one", ten, []api.Era{in(0, 4, lost), in(5, 4, there), in(5, 9, lost)}, api.ErrForm},
		{"the first is empty", ten, []api.Era{in(0, -1, lost), in(0, 9, there)}, api.ErrForm},
		{"the last is empty", ten, []api.Era{in(0, 9, lost), in(10, 9, there)}, api.ErrForm},
		{"one goes far back", ten, []api.Era{in(0, 4, lost), in(5, -20, there), in(-19, 9, lost)}, api.ErrForm},
		{"one goes far on", ten, []api.Era{in(0, 20, lost), in(21, 9, there)}, api.ErrForm},
		{"behind the greatest", ten, []api.Era{in(0, most, lost), in(least, 9, there)}, api.ErrForm},
		{"behind the greatest, of all", always, []api.Era{in(0, most, lost), in(least, last, there)}, api.ErrForm},
		{"MaxIvls", manyWindow, many, api.OK},
		{"one more", moreWindow, more, api.ErrForm},
		{"one less than the window", moreWindow, more[:limit], api.ErrForm},
	} {
		if got := line.Check(c.w, c.l); got != c.want || plainCheck(c.w, c.l) != c.want {
			t.Errorf("Check of %s: error %d", c.say, got)
		}
	}
}

func TestVerdictsThatAreNotRight(t *testing.T) {
	for _, v := range wrongVerdicts {
		for _, l := range [][]api.Era{{in(0, 9, v)}, {in(0, 4, v), in(5, 9, lost)}, {in(0, 4, lost), in(5, 9, v)}, {in(0, 4, lost), in(5, 5, v), in(6, 9, there)}} {
			if why := line.Check(ten, l); why != api.ErrForm {
				t.Errorf("Check(%v): error %d", l, why)
			}
		}
		for _, l := range [][]api.Mark{{mark(0, v)}, {mark(0, v), mark(5, lost)}, {mark(0, lost), mark(5, v)}, {mark(0, lost), mark(5, v), mark(6, lost)}} {
			if got, why := line.Make(ten, l...); len(got) > 0 || why != api.ErrForm {
				t.Errorf("Make(%v): %v, error %d", l, got, why)
			}
		}
	}
	for _, kind := range []api.VerdictKind{api.VerdictDelivered, api.VerdictDiscarded, api.VerdictLost, api.VerdictLooping} {
		for _, at := range []int{0, 1, 1<<20 - 1, 1 << 20} {
			v := api.Verdict{Kind: kind, At: at}
			if why := line.Check(ten, []api.Era{in(0, 9, v)}); why != api.OK {
				t.Errorf("Check of %v: error %d", v, why)
			}
			if got, why := line.Make(ten, mark(0, v)); !slices.Equal(got, []api.Era{in(0, 9, v)}) || why != api.OK {
				t.Errorf("Make of %v: %v, error %d", v, got, why)
			}
		}
	}
}

func TestWindowsThatAreNotRight(t *testing.T) {
	for _, w := range wrongWindows {
		l := []api.Era{{Ivl: w, Verdict: lost}}
		if why := line.Check(w, l); why != api.ErrForm {
			t.Errorf("Check(%v, %v): error %d", w, l, why)
		}
		if why := line.Check(w, nil); why != api.ErrForm {
			t.Errorf("Check(%v, nil): error %d", w, why)
		}
		if got, why := line.Make(w, mark(w.From, lost)); len(got) > 0 || why != api.ErrForm {
			t.Errorf("Make(%v): %v, error %d", w, got, why)
		}
		refused(t, w, l)
	}
}

// refused tells whether all calls of a line that is not right answer so, and nothing else.
func refused(t *testing.T, w api.Ivl, bad []api.Era) {
	t.Helper()
	for _, at := range []int64{w.From, 0, 5, -1, 10, most} {
		if v, why := line.At(w, bad, at); v != (api.Verdict{}) || why != api.ErrForm {
			t.Errorf("At(%v, %.80v, %d): %v, error %d", w, bad, at, v, why)
		}
	}
	for _, v := range []api.Verdict{lost, there, {}} {
		if l, why := line.When(w, bad, v); len(l) > 0 || why != api.ErrForm {
			t.Errorf("When(%v, %.80v, %v): %v, error %d", w, bad, v, l, why)
		}
	}
	for _, to := range []api.Ivl{w, from(4, 5), from(3, 2), from(-1, 20), from(0, last+1)} {
		if l, why := line.Cut(w, bad, to); len(l) > 0 || why != api.ErrForm {
			t.Errorf("Cut(%v, %.80v, %v): %v, error %d", w, bad, to, l, why)
		}
	}
	good := []api.Era{{Ivl: w, Verdict: there}}
	for _, pair := range [][2][]api.Era{{bad, good}, {good, bad}, {bad, bad}, {bad, nil}, {nil, bad}} {
		if l, why := line.Differ(w, pair[0], pair[1]); len(l) > 0 || why != api.ErrForm {
			t.Errorf("Differ(%v, %.80v): %v, error %d", w, pair, l, why)
		}
	}
}

func TestLinesThatAreNotRightAreRefused(t *testing.T) {
	for _, bad := range [][]api.Era{
		nil, {}, {in(1, 9, lost)}, {in(0, 8, lost)}, {in(0, 10, lost)}, {in(0, 4, lost), in(6, 9, there)}, {in(0, 5, lost), in(5, 9, there)},
		{in(0, 4, lost), in(5, 9, lost)}, {in(0, 9, api.Verdict{})}, {in(0, 4, lost), in(5, 9, api.Verdict{Kind: api.VerdictLost, At: -1})},
		{in(0, most, lost), in(least, 9, there)}, {in(0, 4, lost), in(5, 4, there), in(5, 9, lost)},
	} {
		refused(t, ten, bad)
	}
	w, more := turning(0, limit+1, 1, lost, there)
	refused(t, w, more)
}

func TestMakeAtTheEdges(t *testing.T) {
	for _, c := range []struct {
		say   string
		w     api.Ivl
		marks []api.Mark
		want  []api.Era
		why   api.Errno
	}{
		{"the example", ten, []api.Mark{mark(0, lost), mark(3, lost), mark(5, there)}, []api.Era{in(0, 4, lost), in(5, 9, there)}, api.OK},
		{"one", ten, []api.Mark{mark(0, lost)}, []api.Era{in(0, 9, lost)}, api.OK},
		{"one time", from(5, 5), []api.Mark{mark(5, lost)}, []api.Era{in(5, 5, lost)}, api.OK},
		{"the last time", from(last, last), []api.Mark{mark(last, lost)}, []api.Era{in(last, last, lost)}, api.OK},
		{"all times", always, []api.Mark{mark(0, lost), mark(last, there)}, []api.Era{in(0, last-1, lost), in(last, last, there)}, api.OK},
		{"at the end", ten, []api.Mark{mark(0, lost), mark(9, there)}, []api.Era{in(0, 8, lost), in(9, 9, there)}, api.OK},
		{"back again", ten, []api.Mark{mark(0, lost), mark(1, there), mark(2, lost)}, []api.Era{in(0, 0, lost), in(1, 1, there), in(2, 9, lost)}, api.OK},
		{"alike at the end", ten, []api.Mark{mark(0, lost), mark(4, there), mark(9, there)}, []api.Era{in(0, 3, lost), in(4, 9, there)}, api.OK},
		{"all alike", ten, []api.Mark{mark(0, lost), mark(1, lost), mark(2, lost)}, []api.Era{in(0, 9, lost)}, api.OK},
		{"the same Kind elsewhere", ten, []api.Mark{mark(0, there), mark(3, elsewhere)}, []api.Era{in(0, 2, there), in(3, 9, elsewhere)}, api.OK},
		{"another Kind there", ten, []api.Mark{mark(0, there), mark(3, thrown)}, []api.Era{in(0, 2, there), in(3, 9, thrown)}, api.OK},
		{"none", ten, nil, nil, api.ErrForm},
		{"the first is late", ten, []api.Mark{mark(1, lost)}, nil, api.ErrForm},
		{"the first is early", from(1, 9), []api.Mark{mark(0, lost)}, nil, api.ErrForm},
		{"the first is early, the second not", from(1, 9), []api.Mark{mark(0, lost), mark(1, there)}, nil, api.ErrForm},
		{"the first is the least", ten, []api.Mark{mark(least, lost)}, nil, api.ErrForm},
		{"twice at one time", ten, []api.Mark{mark(0, lost), mark(3, there), mark(3, lost)}, nil, api.ErrForm},
		{"twice the same", ten, []api.Mark{mark(0, lost), mark(0, lost)}, nil, api.ErrForm},
		{"falling", ten, []api.Mark{mark(0, lost), mark(5, there), mark(4, lost)}, nil, api.ErrForm},
		{"below 0", ten, []api.Mark{mark(0, lost), mark(-5, there)}, nil, api.ErrForm},
		{"behind the end", ten, []api.Mark{mark(0, lost), mark(10, there)}, nil, api.ErrForm},
		{"behind the end, alike", ten, []api.Mark{mark(0, lost), mark(10, lost)}, nil, api.ErrForm},
		{"the greatest", ten, []api.Mark{mark(0, lost), mark(most, there)}, nil, api.ErrForm},
		{"behind MaxTime", always, []api.Mark{mark(0, lost), mark(last+1, there)}, nil, api.ErrForm},
		{"the greatest, then the least", ten, []api.Mark{mark(0, lost), mark(most, there), mark(least, lost)}, nil, api.ErrForm},
	} {
		if got, why := line.Make(c.w, c.marks...); !slices.Equal(got, c.want) || why != c.why {
			t.Errorf("Make of %s: %v, error %d", c.say, got, why)
		}
	}
}

func TestMakeUpToMaxIvls(t *testing.T) {
	marks := func(many int, verdict func(int) api.Verdict) []api.Mark {
		var l []api.Mark
		for i := range many {
			l = append(l, mark(int64(i), verdict(i)))
		}
		return l
	}
	inTurn := func(i int) api.Verdict { return verdicts[i%2] }
	byFour := func(i int) api.Verdict { return verdicts[i/4%2] }
	w, want := turning(0, limit, 1, verdicts[0], verdicts[1])
	if got, why := line.Make(w, marks(limit, inTurn)...); !slices.Equal(got, want) || why != api.OK {
		t.Errorf("MaxIvls: %d eras, error %d", len(got), why)
	}
	if got, why := line.Make(always, marks(limit+1, inTurn)...); len(got) != 0 || why != api.ErrLong {
		t.Errorf("one more: %d eras, error %d", len(got), why)
	}
	w, want = turning(0, limit, 4, verdicts[0], verdicts[1])
	if got, why := line.Make(w, marks(4*limit, byFour)...); !slices.Equal(got, want) || why != api.OK {
		t.Errorf("four times as many marks: %d eras, error %d", len(got), why)
	}
	if got, why := line.Make(always, marks(4*limit+1, byFour)...); len(got) != 0 || why != api.ErrLong {
		t.Errorf("one more than those: %d eras, error %d", len(got), why)
	}
	if got, why := line.Make(always, marks(9*limit, func(int) api.Verdict { return lost })...); !slices.Equal(got, []api.Era{in(0, last, lost)}) || why != api.OK {
		t.Errorf("many marks, all alike: %d eras, error %d", len(got), why)
	}
	// What is wrong is told ahead of what is too long.
	late := append(marks(3*limit, inTurn), mark(5, lost))
	if got, why := line.Make(always, late...); len(got) != 0 || why != api.ErrForm {
		t.Errorf("too long, and falling: %d eras, error %d", len(got), why)
	}
	late[3*limit] = mark(3*limit, api.Verdict{})
	if got, why := line.Make(always, late...); len(got) != 0 || why != api.ErrForm {
		t.Errorf("too long, and no verdict: %d eras, error %d", len(got), why)
	}
	late[3*limit] = mark(last+1, lost)
	if got, why := line.Make(always, late...); len(got) != 0 || why != api.ErrForm {
		t.Errorf("too long, and too late: %d eras, error %d", len(got), why)
	}
}

// 20.4

func TestMakeTellsTheLastMark(t *testing.T) {
	r := rand.New(rand.NewSource(204))
	for range 2000 {
		w := someWindow(r)
		marks := someMarks(r, w)
		want := lineOf(w, func(x int64) api.Verdict { return lastMark(marks, x) })
		got, why := line.Make(w, marks...)
		if !slices.Equal(got, want) || why != api.OK || line.Check(w, got) != api.OK {
			t.Fatalf("Make(%v, %v): %v, error %d", w, marks, got, why)
		}
		for x := w.From; x <= w.To; x++ {
			if v, why := line.At(w, got, x); v != lastMark(marks, x) || why != api.OK {
				t.Fatalf("At(%v, %v, %d): %v, error %d", w, got, x, v, why)
			}
		}
		var again []api.Mark
		for _, e := range got {
			again = append(again, mark(e.Ivl.From, e.Verdict))
		}
		if back, why := line.Make(w, again...); !slices.Equal(back, got) || why != api.OK {
			t.Fatalf("Make of the eras of %v: %v, error %d", got, back, why)
		}
	}
}

// 20.2

func TestAtTheEdges(t *testing.T) {
	l := []api.Era{in(3, 4, lost), in(5, 5, there), in(6, 9, round)}
	w := from(3, 9)
	for _, c := range []struct {
		t    int64
		want api.Verdict
		why  api.Errno
	}{
		{3, lost, api.OK}, {4, lost, api.OK}, {5, there, api.OK}, {6, round, api.OK}, {9, round, api.OK},
		{2, api.Verdict{}, api.ErrRange}, {10, api.Verdict{}, api.ErrRange}, {0, api.Verdict{}, api.ErrRange}, {-1, api.Verdict{}, api.ErrRange},
		{last, api.Verdict{}, api.ErrRange}, {last + 1, api.Verdict{}, api.ErrRange}, {least, api.Verdict{}, api.ErrRange}, {most, api.Verdict{}, api.ErrRange},
	} {
		if got, why := line.At(w, l, c.t); got != c.want || why != c.why {
			t.Errorf("At %d: %v, error %d", c.t, got, why)
		}
	}
	all := []api.Era{in(0, last-1, lost), in(last, last, there)}
	for _, c := range []struct {
		t    int64
		want api.Verdict
		why  api.Errno
	}{{0, lost, api.OK}, {last - 1, lost, api.OK}, {last, there, api.OK}, {-1, api.Verdict{}, api.ErrRange}, {last + 1, api.Verdict{}, api.ErrRange}} {
		if got, why := line.At(always, all, c.t); got != c.want || why != c.why {
			t.Errorf("At %d of all: %v, error %d", c.t, got, why)
		}
	}
}

func TestWhenAtTheEdges(t *testing.T) {
	l := []api.Era{in(0, 1, lost), in(2, 4, there), in(5, 5, lost), in(6, 7, elsewhere), in(8, 9, lost)}
	for _, c := range []struct {
		v    api.Verdict
		want []api.Ivl
	}{
		{lost, []api.Ivl{from(0, 1), from(5, 5), from(8, 9)}},
		{there, []api.Ivl{from(2, 4)}},
		{elsewhere, []api.Ivl{from(6, 7)}},
		{thrown, nil}, {api.Verdict{Kind: api.VerdictLost, At: 2}, nil}, {api.Verdict{Kind: api.VerdictLost}, nil},
		// One that is not right holds nowhere.
		{api.Verdict{}, nil}, {api.Verdict{Kind: 99, At: 1}, nil}, {api.Verdict{Kind: api.VerdictLost, At: -1}, nil},
	} {
		if got, why := line.When(ten, l, c.v); !slices.Equal(got, c.want) || why != api.OK {
			t.Errorf("When %v: %v, error %d", c.v, got, why)
		}
	}
	if got, why := line.When(always, []api.Era{in(0, last, lost)}, lost); !slices.Equal(got, []api.Ivl{always}) || why != api.OK {
		t.Errorf("When of all: %v, error %d", got, why)
	}
	w, many := turning(0, limit, 1, lost, there)
	for first, v := range []api.Verdict{lost, there} {
		var want []api.Ivl
		for x := int64(first); x < limit; x += 2 {
			want = append(want, from(x, x))
		}
		if got, why := line.When(w, many, v); !slices.Equal(got, want) || why != api.OK {
			t.Errorf("When of MaxIvls: %d intervals, error %d", len(got), why)
		}
	}
}

// 20.5

func TestWhole(t *testing.T) {
	r := rand.New(rand.NewSource(205))
	for range 1000 {
		w := someWindow(r)
		l := someLine(r, w)
		var all []api.Ivl
		many := int64(0)
		for _, v := range verdicts {
			got, why := line.When(w, l, v)
			if want := rowOf(w, func(x int64) bool { return told(l)[x] == v }); !slices.Equal(got, want) || why != api.OK || ivl.Check(got) != api.OK {
				t.Fatalf("When(%v, %v, %v): %v, error %d", w, l, v, got, why)
			}
			long, _ := ivl.Long(got)
			all, _ = ivl.Or(all, got)
			many += long
		}
		if !slices.Equal(all, []api.Ivl{w}) || many != w.To-w.From+1 {
			t.Fatalf("all verdicts of %v: %v, %d times", l, all, many)
		}
	}
}

// 20.2, 20.6

func TestCutAtTheEdges(t *testing.T) {
	w := from(3, 12)
	l := []api.Era{in(3, 4, lost), in(5, 7, there), in(8, 12, lost)}
	for _, c := range []struct {
		to   api.Ivl
		want []api.Era
		why  api.Errno
	}{
		{w, l, api.OK},
		{from(3, 3), []api.Era{in(3, 3, lost)}, api.OK},
		{from(12, 12), []api.Era{in(12, 12, lost)}, api.OK},
		{from(4, 5), []api.Era{in(4, 4, lost), in(5, 5, there)}, api.OK},
		{from(5, 7), []api.Era{in(5, 7, there)}, api.OK},
		{from(6, 6), []api.Era{in(6, 6, there)}, api.OK},
		{from(4, 8), []api.Era{in(4, 4, lost), in(5, 7, there), in(8, 8, lost)}, api.OK},
		{from(3, 7), []api.Era{in(3, 4, lost), in(5, 7, there)}, api.OK},
		{from(7, 12), []api.Era{in(7, 7, there), in(8, 12, lost)}, api.OK},
		{from(2, 12), nil, api.ErrRange}, {from(3, 13), nil, api.ErrRange}, {from(2, 13), nil, api.ErrRange}, {from(0, 2), nil, api.ErrRange}, {from(13, 20), nil, api.ErrRange},
		{from(6, 5), nil, api.ErrRange}, {from(12, 3), nil, api.ErrRange}, {from(-1, 5), nil, api.ErrRange}, {from(5, last+1), nil, api.ErrRange}, {from(least, most), nil, api.ErrRange},
		{from(most, least), nil, api.ErrRange}, {always, nil, api.ErrRange}, {from(13, 2), nil, api.ErrRange},
	} {
		if got, why := line.Cut(w, l, c.to); !slices.Equal(got, c.want) || why != c.why {
			t.Errorf("Cut to %v: %v, error %d", c.to, got, why)
		}
	}
	for _, to := range wrongWindows {
		if got, why := line.Cut(always, []api.Era{in(0, last, lost)}, to); len(got) != 0 || why != api.ErrRange {
			t.Errorf("Cut of all to %v: %v, error %d", to, got, why)
		}
	}
	many, all := turning(0, limit, 2, lost, there)
	if got, why := line.Cut(many, all, from(1, 2*limit-2)); len(got) != limit || why != api.OK || got[0] != in(1, 1, lost) || got[limit-1] != in(2*limit-2, 2*limit-2, there) {
		t.Errorf("Cut of MaxIvls: %d eras, error %d", len(got), why)
	}
}

func TestCutTellsWhatWasTold(t *testing.T) {
	r := rand.New(rand.NewSource(206))
	for range 300 {
		w := someWindow(r)
		l := someLine(r, w)
		was := told(l)
		for first := w.From; first <= w.To; first++ {
			end := first + r.Int63n(w.To-first+1)
			to := from(first, end)
			want := lineOf(to, func(x int64) api.Verdict { return was[x] })
			got, why := line.Cut(w, l, to)
			if !slices.Equal(got, want) || why != api.OK || line.Check(to, got) != api.OK {
				t.Fatalf("Cut(%v, %v, %v): %v, error %d", w, l, to, got, why)
			}
			for x := first; x <= end; x++ {
				a, w1 := line.At(w, l, x)
				b, w2 := line.At(to, got, x)
				if a != b || w1 != api.OK || w2 != api.OK {
					t.Fatalf("At %d of %v: %v, of %v: %v", x, l, a, got, b)
				}
			}
		}
	}
}

func TestDifferAtTheEdges(t *testing.T) {
	a := []api.Era{in(0, 4, lost), in(5, 9, there)}
	for _, c := range []struct {
		say  string
		b    []api.Era
		want []api.Ivl
	}{
		{"itself", a, nil},
		{"one verdict", []api.Era{in(0, 9, lost)}, []api.Ivl{from(5, 9)}},
		{"the other", []api.Era{in(0, 9, there)}, []api.Ivl{from(0, 4)}},
		{"neither", []api.Era{in(0, 9, round)}, []api.Ivl{from(0, 9)}},
		{"turned", []api.Era{in(0, 4, there), in(5, 9, lost)}, []api.Ivl{from(0, 9)}},
		{"later", []api.Era{in(0, 6, lost), in(7, 9, there)}, []api.Ivl{from(5, 6)}},
		{"sooner", []api.Era{in(0, 0, lost), in(1, 9, there)}, []api.Ivl{from(1, 4)}},
		{"the same Kind elsewhere", []api.Era{in(0, 4, lost), in(5, 9, elsewhere)}, []api.Ivl{from(5, 9)}},
		{"another Kind there", []api.Era{in(0, 4, lost), in(5, 9, thrown)}, []api.Ivl{from(5, 9)}},
		{"amid both", []api.Era{in(0, 1, lost), in(2, 2, there), in(3, 6, lost), in(7, 7, there), in(8, 9, lost)}, []api.Ivl{from(2, 2), from(5, 6), from(8, 9)}},
		{"over both", []api.Era{in(0, 3, lost), in(4, 5, round), in(6, 9, there)}, []api.Ivl{from(4, 5)}},
	} {
		for _, pair := range [][2][]api.Era{{a, c.b}, {c.b, a}} {
			if got, why := line.Differ(ten, pair[0], pair[1]); !slices.Equal(got, c.want) || why != api.OK {
				t.Errorf("Differ, %s: %v, error %d", c.say, got, why)
			}
		}
	}
	all, end := []api.Era{in(0, last, lost)}, []api.Era{in(0, last-1, lost), in(last, last, there)}
	if got, why := line.Differ(always, all, end); !slices.Equal(got, []api.Ivl{from(last, last)}) || why != api.OK {
		t.Errorf("Differ of all: %v, error %d", got, why)
	}
}

// Of two lines of MaxIvls eras that turn at unlike times, there are nearly twice as many pieces, and yet no more than MaxIvls intervals.
func TestDifferUpToMaxIvls(t *testing.T) {
	// The first turns at 2, 4, ..., the second at 1, 3, ...: they tell unlike things at all times, and the row is one interval.
	w, a := turning(0, limit, 2, lost, there)
	_, b := turning(-1, limit, 2, round, thrown)
	b[0].Ivl.From, b[limit-1].Ivl.To = 0, w.To
	if got, why := line.Differ(w, a, b); !slices.Equal(got, []api.Ivl{w}) || why != api.OK {
		t.Errorf("unlike at all times: %d intervals, error %d", len(got), why)
	}
	// Of the same verdicts they tell unlike things at every other time.
	_, b = turning(-1, limit, 2, lost, there)
	b[0].Ivl.From, b[limit-1].Ivl.To = 0, w.To
	var want []api.Ivl
	for x := int64(1); x < w.To-1; x += 2 {
		want = append(want, from(x, x))
	}
	if got, why := line.Differ(w, a, b); !slices.Equal(got, want) || why != api.OK {
		t.Errorf("unlike in turn: %d intervals, error %d", len(got), why)
	}
	// The most there can be: unlike at both ends, too.
	_, b = turning(-1, limit, 2, there, lost)
	b[0].Ivl.From, b[limit-1].Ivl.To = 0, w.To
	want = nil
	for x := int64(0); x < w.To-2; x += 2 {
		want = append(want, from(x, x))
	}
	want = append(want, from(w.To-1, w.To))
	if got, why := line.Differ(w, a, b); !slices.Equal(got, want) || len(want) != limit || why != api.OK {
		t.Errorf("unlike in turn, and at the ends: %d intervals of %d, error %d", len(got), len(want), why)
	}
	if got, why := line.Differ(w, b, a); !slices.Equal(got, want) || why != api.OK {
		t.Errorf("the same, turned: %d intervals, error %d", len(got), why)
	}
}

func TestDifferIsWhereAtDoes(t *testing.T) {
	r := rand.New(rand.NewSource(2060))
	for range 1000 {
		w := someWindow(r)
		a, b := someLine(r, w), someLine(r, w)
		at := func(l []api.Era, x int64) api.Verdict {
			v, why := line.At(w, l, x)
			if why != api.OK {
				t.Fatalf("At(%v, %v, %d): error %d", w, l, x, why)
			}
			return v
		}
		want := rowOf(w, func(x int64) bool { return at(a, x) != at(b, x) })
		got, why := line.Differ(w, a, b)
		if !slices.Equal(got, want) || why != api.OK || ivl.Check(got) != api.OK {
			t.Fatalf("Differ(%v, %v, %v): %v, error %d", w, a, b, got, why)
		}
		if none, why := line.Differ(w, a, a); len(none) > 0 || why != api.OK {
			t.Fatalf("Differ of %v and itself: %v, error %d", a, none, why)
		}
	}
}

// 20.3

// held makes a call of a list with room behind it, and tells whether what was handed in is as it was, and the answer of its own memory.
func held[E, A comparable](t *testing.T, say string, l []E, call func([]E) []A) {
	t.Helper()
	room := make([]E, len(l)+3)
	copy(room, l)
	was := slices.Clone(room)
	got := call(room[:len(l)])
	if !slices.Equal(room, was) {
		t.Errorf("%s of %.80v changes what it was handed", say, l)
	}
	answer := slices.Clone(got)
	clear(got[:cap(got)])
	if !slices.Equal(room, was) {
		t.Errorf("%s of %.80v shares its answer's memory", say, l)
	}
	if again := call(room[:len(l)]); !slices.Equal(again, answer) {
		t.Errorf("%s of %.80v: %.80v, then %.80v", say, l, answer, again)
	}
	kept := call(room[:len(l)])
	clear(room)
	if !slices.Equal(kept, answer) {
		t.Errorf("%s of %.80v hangs on what it was handed", say, l)
	}
}

func TestAnswersAreNewMemory(t *testing.T) {
	other := []api.Era{in(0, 2, there), in(3, 7, lost), in(8, 9, round)}
	for _, l := range [][]api.Era{{in(0, 9, lost)}, {in(0, 4, lost), in(5, 9, there)}, {in(0, 0, lost), in(1, 1, there), in(2, 9, lost)}, other} {
		for _, to := range []api.Ivl{ten, from(0, 0), from(1, 5), from(9, 9)} {
			held(t, "Cut", l, func(l []api.Era) []api.Era { c, _ := line.Cut(ten, l, to); return c })
		}
		for _, v := range verdicts {
			held(t, "When", l, func(l []api.Era) []api.Ivl { c, _ := line.When(ten, l, v); return c })
		}
		held(t, "Differ", l, func(l []api.Era) []api.Ivl { c, _ := line.Differ(ten, l, other); return c })
		held(t, "Differ", l, func(l []api.Era) []api.Ivl { c, _ := line.Differ(ten, other, l); return c })
		held(t, "Differ of itself", l, func(l []api.Era) []api.Ivl { c, _ := line.Differ(ten, l, l); return c })
		held(t, "At and Check", l, func(l []api.Era) []api.Era {
			v, _ := line.At(ten, l, 5)
			return []api.Era{in(int64(line.Check(ten, l)), 0, v)}
		})
		var marks []api.Mark
		for _, e := range l {
			marks = append(marks, mark(e.Ivl.From, e.Verdict))
		}
		held(t, "Make", marks, func(l []api.Mark) []api.Era { c, _ := line.Make(ten, l...); return c })
		alike := append(marks[:1:1], mark(9, marks[0].Verdict))
		held(t, "Make", alike, func(l []api.Mark) []api.Era { c, _ := line.Make(ten, l...); return c })
	}
}

// P1, P3, P4

func TestNilAndEmptyAreAlike(t *testing.T) {
	l := []api.Era{in(0, 9, lost)}
	tell := func(nothing []api.Era, none []api.Mark) string {
		made, w1 := line.Make(ten, none...)
		v, w2 := line.At(ten, nothing, 0)
		when, w3 := line.When(ten, nothing, lost)
		cut, w4 := line.Cut(ten, nothing, ten)
		a, w5 := line.Differ(ten, nothing, l)
		b, w6 := line.Differ(ten, l, nothing)
		return fmt.Sprint(line.Check(ten, nothing), made, w1, v, w2, when, w3, cut, w4, a, w5, b, w6)
	}
	if tell(nil, nil) != tell([]api.Era{}, []api.Mark{}) {
		t.Errorf("nil: %s, empty: %s", tell(nil, nil), tell([]api.Era{}, []api.Mark{}))
	}
}

// All calls answer at all numbers.
func TestAnyNumbers(t *testing.T) {
	some := []int64{least, -1, 0, 1, last, last + 1, most}
	for _, a := range some {
		for _, b := range some {
			for _, c := range some {
				for _, d := range some {
					for _, w := range []api.Ivl{always, from(0, 1), from(a, d), from(c, b)} {
						l := []api.Era{in(a, b, lost), in(c, d, there)}
						if got := line.Check(w, l); got != plainCheck(w, l) {
							t.Errorf("Check(%v, %v): error %d", w, l, got)
						}
						line.Make(w, mark(a, lost), mark(b, there), mark(c, lost), mark(d, there))
						line.Make(w, mark(w.From, lost), mark(b, there), mark(c, lost), mark(d, there))
						line.At(w, l, b)
						line.When(w, l, lost)
						line.Cut(w, l, from(b, c))
						line.Cut(from(0, 9), []api.Era{in(0, 9, lost)}, from(b, c))
						line.Differ(w, l, l)
					}
				}
			}
		}
	}
}

// fuzzed makes a window and eras of bytes: right lines often, and others.
func fuzzed(w api.Ivl, s []byte) []api.Era {
	var l []api.Era
	at := w.From
	for len(s) >= 2 {
		to := at + int64(s[0]%8)
		if s[0] >= 250 {
			to = at - int64(s[0]-250)
		}
		v := verdicts[int(s[1])%len(verdicts)]
		if s[1] >= 253 {
			v = wrongVerdicts[int(s[0])%len(wrongVerdicts)]
		}
		l = append(l, in(at, to, v))
		at = to + 1
		if s[0] == 249 {
			at++
		}
		s = s[2:]
	}
	if n := len(l) - 1; n >= 0 && l[n].Ivl.To > w.To && l[n].Ivl.From <= w.To {
		l[n].Ivl.To = w.To
	}
	return l
}

func FuzzLines(f *testing.F) {
	f.Add(int64(0), byte(9), []byte{4, 0, 7, 1}, []byte{2, 1, 1, 0, 7, 2}, int64(3), byte(2))
	f.Add(last-9, byte(9), []byte{4, 0, 7, 1}, []byte{7, 3, 7, 0}, last, byte(0))
	f.Add(most, byte(9), []byte{4, 0, 7, 1}, []byte{250, 3, 7, 0}, least, byte(0))
	f.Fuzz(func(t *testing.T, first int64, long byte, s, u []byte, x int64, wide byte) {
		if len(s) > 60 || len(u) > 60 {
			return
		}
		w, to := from(first, first+int64(long)), from(x, x+int64(wide))
		a, b := fuzzed(w, s), fuzzed(w, u)
		bad := plainCheck(w, a)
		v, w1 := line.At(w, a, x)
		when, w2 := line.When(w, a, lost)
		cut, w3 := line.Cut(w, a, to)
		differ, w4 := line.Differ(w, a, b)
		if line.Check(w, a) != bad || w2 != bad || w4 != max(bad, plainCheck(w, b)) {
			t.Fatalf("%v, %v: errors %d, %d, %d", w, a, line.Check(w, a), w2, w4)
		}
		if bad != api.OK {
			if w1 != bad || w3 != bad || v != (api.Verdict{}) || len(when)+len(cut)+len(differ) > 0 {
				t.Fatalf("%v, %v: errors %d, %d; %v, %v, %v, %v", w, a, w1, w3, v, when, cut, differ)
			}
			return
		}
		is := told(a)
		if want, in := is[x]; v != want || in != (w1 == api.OK) || !in && w1 != api.ErrRange {
			t.Errorf("At(%v, %v, %d): %v, error %d", w, a, x, v, w1)
		}
		if !slices.Equal(when, rowOf(w, func(x int64) bool { return is[x] == lost })) {
			t.Errorf("When(%v, %v): %v", w, a, when)
		}
		if within := plainRight(to) && w.From <= to.From && to.To <= w.To; !within {
			if len(cut) > 0 || w3 != api.ErrRange {
				t.Errorf("Cut(%v, %v, %v): %v, error %d", w, a, to, cut, w3)
			}
		} else if !slices.Equal(cut, lineOf(to, func(x int64) api.Verdict { return is[x] })) || w3 != api.OK {
			t.Errorf("Cut(%v, %v, %v): %v, error %d", w, a, to, cut, w3)
		}
		if other := told(b); w4 == api.OK && !slices.Equal(differ, rowOf(w, func(x int64) bool { return is[x] != other[x] })) {
			t.Errorf("Differ(%v, %v, %v): %v", w, a, b, differ)
		}
	})
}

func TestNoGoroutineIsLeft(t *testing.T) {
	was := runtime.NumGoroutine()
	w, l := turning(0, 500, 3, lost, there)
	line.Make(w, mark(0, lost), mark(5, there))
	line.At(w, l, 7)
	line.When(w, l, lost)
	line.Cut(w, l, from(5, 50))
	line.Differ(w, l, []api.Era{{Ivl: w, Verdict: lost}})
	if is := runtime.NumGoroutine(); is > was {
		t.Errorf("%d goroutines, then %d", was, is)
	}
}
