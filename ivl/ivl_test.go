package ivl_test

import (
	"cmp"
	"fmt"
	"math"
	"math/rand"
	"runtime"
	"slices"
	"testing"

	"spoor/api"
	"spoor/ivl"
)

// The calls have the signatures of doc/19-ivl.md.
var (
	_ func([]api.Ivl) api.Errno                         = ivl.Check
	_ func(...api.Ivl) ([]api.Ivl, api.Errno)           = ivl.Make
	_ func([]api.Ivl, int64) (bool, api.Errno)          = ivl.Has
	_ func([]api.Ivl, []api.Ivl) ([]api.Ivl, api.Errno) = ivl.Or
	_ func([]api.Ivl, []api.Ivl) ([]api.Ivl, api.Errno) = ivl.And
	_ func([]api.Ivl, api.Ivl) ([]api.Ivl, api.Errno)   = ivl.Not
	_ func([]api.Ivl) (int64, api.Errno)                = ivl.Long
)

const (
	last  = int64(1) << 40 // MaxTime
	limit = 1024           // MaxIvls
	most  = int64(math.MaxInt64)
	least = int64(math.MinInt64)
)

var always = api.Ivl{To: last}

func from(a, b int64) api.Ivl {
	return api.Ivl{From: a, To: b}
}

// spaced are intervals of one time each, every other one, the first at first.
func spaced(first int64, many int) []api.Ivl {
	var l []api.Ivl
	for i := range int64(many) {
		l = append(l, from(first+2*i, first+2*i))
	}
	return l
}

// What follows is plain, time by time.

func plainRight(i api.Ivl) bool {
	return 0 <= i.From && i.From <= i.To && i.To <= last
}

func plainCheck(l []api.Ivl) api.Errno {
	if len(l) > limit {
		return api.ErrForm
	}
	for n, i := range l {
		if !plainRight(i) || n > 0 && i.From <= l[n-1].To+1 {
			return api.ErrForm
		}
	}
	return api.OK
}

// plainHas tells whether a time is in one of any intervals.
func plainHas(l []api.Ivl, t int64) bool {
	return slices.ContainsFunc(l, func(i api.Ivl) bool { return i.From <= t && t <= i.To })
}

// edges are all times at which a set of such intervals may begin or end, with their neighbours, in order.
func edges(lists ...[]api.Ivl) []int64 {
	l := []int64{0, last}
	for _, i := range slices.Concat(lists...) {
		for _, t := range []int64{i.From - 1, i.From, i.From + 1, i.To - 1, i.To, i.To + 1} {
			if 0 <= t && t <= last {
				l = append(l, t)
			}
		}
	}
	slices.Sort(l)
	return slices.Compact(l)
}

// row is the row of the times that a set has, which begins and ends at edges alone.
func row(at []int64, has func(int64) bool) []api.Ivl {
	var l []api.Ivl
	in := false
	for i, t := range at {
		switch is := has(t); {
		case is && !in:
			l, in = append(l, from(t, last)), true
		case !is && in:
			l[len(l)-1].To, in = at[i-1], false
		}
	}
	return l
}

// limited is what a call answers whose row this is.
func limited(l []api.Ivl) ([]api.Ivl, api.Errno) {
	if len(l) > limit {
		return nil, api.ErrLong
	}
	return l, api.OK
}

func plainLong(l []api.Ivl) int64 {
	many := int64(0)
	for _, i := range l {
		many += 1 + i.To - i.From
	}
	return many
}

// places are where eight times in a row begin: at both ends of all times, amid them, and where the numbers of IPv4's addresses end.
var places = []int64{0, 1, 1000, 1<<32 - 4, last - 8, last - 7}

// bits is the row of those of eight times whose bits are ones.
func bits(place int64, set uint) []api.Ivl {
	var l []api.Ivl
	for i := 0; i < 8; i++ {
		if set>>i&1 == 0 {
			continue
		}
		first := i
		for i < 7 && set>>(i+1)&1 == 1 {
			i++
		}
		l = append(l, from(place+int64(first), place+int64(i)))
	}
	return l
}

// 19.1

func TestCheckAtTheEdges(t *testing.T) {
	for _, c := range []struct {
		say  string
		l    []api.Ivl
		want api.Errno
	}{
		{"nil", nil, api.OK},
		{"none", []api.Ivl{}, api.OK},
		{"one time", []api.Ivl{from(5, 5)}, api.OK},
		{"the first time", []api.Ivl{from(0, 0)}, api.OK},
		{"the last time", []api.Ivl{from(last, last)}, api.OK},
		{"all times", []api.Ivl{always}, api.OK},
		{"one between", []api.Ivl{from(0, 2), from(4, 5)}, api.OK},
		{"none between", []api.Ivl{from(0, 2), from(3, 5)}, api.ErrForm},
		{"one in both", []api.Ivl{from(0, 2), from(2, 5)}, api.ErrForm},
		{"one within another", []api.Ivl{from(0, 9), from(2, 5)}, api.ErrForm},
		{"twice", []api.Ivl{from(0, 2), from(0, 2)}, api.ErrForm},
		{"falling", []api.Ivl{from(7, 8), from(2, 5)}, api.ErrForm},
		{"the last is wrong", []api.Ivl{from(0, 2), from(4, 5), from(6, 7)}, api.ErrForm},
		{"turned", []api.Ivl{from(3, 2)}, api.ErrForm},
		{"turned at the end", []api.Ivl{from(1, 2), from(9, 8)}, api.ErrForm},
		{"From below 0", []api.Ivl{from(-1, 5)}, api.ErrForm},
		{"both below 0", []api.Ivl{from(-9, -5)}, api.ErrForm},
		{"the least", []api.Ivl{from(least, least)}, api.ErrForm},
		{"To above MaxTime", []api.Ivl{from(5, last+1)}, api.ErrForm},
		{"both above MaxTime", []api.Ivl{from(last+1, last+1)}, api.ErrForm},
		{"the greatest", []api.Ivl{from(most, most)}, api.ErrForm},
		{"all numbers", []api.Ivl{from(least, most)}, api.ErrForm},
		{"0 up to below 0", []api.Ivl{from(0, -1)}, api.ErrForm},
		{"behind the last one", []api.Ivl{from(5, last), from(0, 2)}, api.ErrForm},
		{"behind the greatest", []api.Ivl{from(5, most), from(least+1, 2)}, api.ErrForm},
		{"the last two, one between", []api.Ivl{from(0, last-2), from(last, last)}, api.OK},
		{"the last two, none between", []api.Ivl{from(0, last-1), from(last, last)}, api.ErrForm},
		{"over the end of IPv4's numbers", []api.Ivl{from(0, 1<<32-1), from(1<<32, 1<<33)}, api.ErrForm},
		{"over it, one between", []api.Ivl{from(0, 1<<32-1), from(1<<32+1, 1<<33)}, api.OK},
		{"MaxIvls", spaced(0, limit), api.OK},
		{"MaxIvls up to the last one", spaced(last-2*limit+2, limit), api.OK},
		{"one more", spaced(0, limit+1), api.ErrForm},
		{"many more", spaced(0, 5000), api.ErrForm},
	} {
		if got := ivl.Check(c.l); got != c.want {
			t.Errorf("Check of %s: error %d", c.say, got)
		}
	}
}

// wrongs are rows that are not right.
func wrongs() [][]api.Ivl {
	return [][]api.Ivl{
		{from(3, 2)}, {from(0, 2), from(3, 3)}, {from(4, 5), from(0, 1)}, {from(0, last+1)}, {from(-1, 1)}, {from(1, 2), from(most, least)},
		{from(least, most)}, {from(0, 2), from(2, 2)}, spaced(0, limit+1),
	}
}

func TestRowsThatAreNotRightAreRefused(t *testing.T) {
	good := []api.Ivl{from(1, 2)}
	for _, bad := range wrongs() {
		for _, at := range []int64{1, 0, -1, last, last + 1} {
			if is, why := ivl.Has(bad, at); is || why != api.ErrForm {
				t.Errorf("Has of %.60v: %t, error %d", bad, is, why)
			}
		}
		for _, pair := range [][2][]api.Ivl{{bad, good}, {good, bad}, {bad, nil}, {nil, bad}, {bad, bad}} {
			if l, why := ivl.Or(pair[0], pair[1]); len(l) > 0 || why != api.ErrForm {
				t.Errorf("Or of %.60v: %.60v, error %d", pair, l, why)
			}
			if l, why := ivl.And(pair[0], pair[1]); len(l) > 0 || why != api.ErrForm {
				t.Errorf("And of %.60v: %.60v, error %d", pair, l, why)
			}
		}
		if l, why := ivl.Not(bad, always); len(l) > 0 || why != api.ErrForm {
			t.Errorf("Not of %.60v: %.60v, error %d", bad, l, why)
		}
		if l, why := ivl.Not(bad, from(3, 2)); len(l) > 0 || why != api.ErrForm {
			t.Errorf("Not of %.60v within none: %.60v, error %d", bad, l, why)
		}
		if many, why := ivl.Long(bad); many != 0 || why != api.ErrForm {
			t.Errorf("Long of %.60v: %d, error %d", bad, many, why)
		}
	}
}

// What is wrong is told ahead of what is too long.
func TestFormIsAheadOfLong(t *testing.T) {
	many, bad := spaced(1, limit), []api.Ivl{from(1<<20, 1<<20), from(1<<20+1, 1<<20+1)}
	if _, why := ivl.Or(many, bad); why != api.ErrForm {
		t.Errorf("Or: error %d", why)
	}
	if _, why := ivl.Or(bad, many); why != api.ErrForm {
		t.Errorf("Or: error %d", why)
	}
	if _, why := ivl.Not(spaced(1, limit+1), always); why != api.ErrForm {
		t.Errorf("Not: error %d", why)
	}
	if _, why := ivl.Not(many, from(0, last+1)); why != api.ErrForm {
		t.Errorf("Not within too much: error %d", why)
	}
}

func TestMakeAtTheEdges(t *testing.T) {
	for _, c := range []struct {
		say  string
		l    []api.Ivl
		want []api.Ivl
		why  api.Errno
	}{
		{"the example", []api.Ivl{from(5, 7), from(0, 2), from(3, 3)}, []api.Ivl{from(0, 3), from(5, 7)}, api.OK},
		{"none", nil, nil, api.OK},
		{"one", []api.Ivl{from(3, 5)}, []api.Ivl{from(3, 5)}, api.OK},
		{"touching", []api.Ivl{from(3, 5), from(6, 6)}, []api.Ivl{from(3, 6)}, api.OK},
		{"touching, falling", []api.Ivl{from(6, 6), from(3, 5)}, []api.Ivl{from(3, 6)}, api.OK},
		{"apart", []api.Ivl{from(3, 5), from(7, 7)}, []api.Ivl{from(3, 5), from(7, 7)}, api.OK},
		{"one within another", []api.Ivl{from(0, 9), from(2, 3), from(5, 6)}, []api.Ivl{from(0, 9)}, api.OK},
		{"the same beginning", []api.Ivl{from(0, 2), from(0, 9), from(0, 5)}, []api.Ivl{from(0, 9)}, api.OK},
		{"the same twice", []api.Ivl{from(4, 4), from(4, 4)}, []api.Ivl{from(4, 4)}, api.OK},
		{"up to the last one", []api.Ivl{from(9, last), from(last, last), from(3, last)}, []api.Ivl{from(3, last)}, api.OK},
		{"all", []api.Ivl{from(9, last), from(0, 8)}, []api.Ivl{always}, api.OK},
		{"both ends", []api.Ivl{from(last, last), from(0, 0)}, []api.Ivl{from(0, 0), from(last, last)}, api.OK},
		{"over the end of IPv4's numbers", []api.Ivl{from(1<<32, 1<<33), from(7, 1<<32-1)}, []api.Ivl{from(7, 1<<33)}, api.OK},
		{"one turned", []api.Ivl{from(3, 5), from(2, 1)}, nil, api.ErrForm},
		{"the first turned", []api.Ivl{from(2, 1), from(3, 5)}, nil, api.ErrForm},
		{"one below 0", []api.Ivl{from(3, 5), from(-2, 1)}, nil, api.ErrForm},
		{"both ends below 0", []api.Ivl{from(3, 5), from(-2, -1)}, nil, api.ErrForm},
		{"one above MaxTime", []api.Ivl{from(3, 5), from(2, last+1)}, nil, api.ErrForm},
		{"the least and the greatest", []api.Ivl{from(least, most)}, nil, api.ErrForm},
		{"MaxIvls", spaced(0, limit), spaced(0, limit), api.OK},
		{"one more", spaced(0, limit+1), nil, api.ErrLong},
		{"one more, that come to one", slices.Repeat([]api.Ivl{from(1, 2)}, limit+1), nil, api.ErrLong},
		{"MaxIvls, that come to one", slices.Repeat([]api.Ivl{from(1, 2)}, limit), []api.Ivl{from(1, 2)}, api.OK},
		{"too many, and turned", slices.Repeat([]api.Ivl{from(2, 1)}, limit+1), nil, api.ErrLong},
		{"MaxIvls, and turned", slices.Repeat([]api.Ivl{from(2, 1)}, limit), nil, api.ErrForm},
	} {
		if got, why := ivl.Make(c.l...); !slices.Equal(got, c.want) || why != c.why {
			t.Errorf("Make of %s: %.60v, error %d", c.say, got, why)
		}
	}
}

// someIvls are right intervals, by chance, that meet often.
func someIvls(r *rand.Rand, many int) []api.Ivl {
	place := []int64{0, 1000, 1<<32 - 20, last - 8*int64(many) - 6}[r.Intn(4)]
	var l []api.Ivl
	for range many {
		a, long := place+r.Int63n(8*int64(many)), r.Int63n(6)
		if r.Intn(20) == 0 {
			long = r.Int63n(1 << 20)
		}
		l = append(l, from(a, min(a+long, last)))
	}
	return l
}

func TestMakeIsTheRowOfAll(t *testing.T) {
	r := rand.New(rand.NewSource(19))
	for range 2000 {
		l := someIvls(r, r.Intn(20))
		want := row(edges(l), func(x int64) bool { return plainHas(l, x) })
		got, why := ivl.Make(l...)
		if !slices.Equal(got, want) || why != api.OK || ivl.Check(got) != api.OK {
			t.Fatalf("Make(%v): %v, error %d", l, got, why)
		}
		slices.SortFunc(l, func(a, b api.Ivl) int { return cmp.Compare(b.To, a.To) })
		if again, why := ivl.Make(l...); !slices.Equal(again, got) || why != api.OK {
			t.Fatalf("Make(%v): %v, error %d; in another order %v", l, again, why, got)
		}
	}
}

// A row is its own row.
func TestMakeOfARowIsIt(t *testing.T) {
	for _, l := range [][]api.Ivl{nil, {always}, spaced(0, limit), spaced(last-2*limit+2, limit)} {
		if got, why := ivl.Make(l...); !slices.Equal(got, l) || why != api.OK {
			t.Errorf("Make(%.60v): %.60v, error %d", l, got, why)
		}
	}
}

// 19.2, 19.4, 19.5

func TestAllSetsOfEightTimes(t *testing.T) {
	for _, p := range places {
		var rows [256][]api.Ivl
		for a := range rows {
			rows[a] = bits(p, uint(a))
		}
		for a, l := range rows {
			for i := range 8 {
				if is, why := ivl.Has(l, p+int64(i)); is != (a>>i&1 == 1) || why != api.OK {
					t.Fatalf("Has(%v, %d): %t, error %d", l, p+int64(i), is, why)
				}
			}
			for b, m := range rows {
				if got, why := ivl.Or(l, m); !slices.Equal(got, rows[a|b]) || why != api.OK {
					t.Fatalf("Or(%v, %v): %v, error %d", l, m, got, why)
				}
				if got, why := ivl.And(l, m); !slices.Equal(got, rows[a&b]) || why != api.OK {
					t.Fatalf("And(%v, %v): %v, error %d", l, m, got, why)
				}
			}
		}
	}
}

// Not within each part of the eight times, and within all times.
func TestNotOfAllSetsOfEightTimes(t *testing.T) {
	for _, p := range places {
		for a := range uint(256) {
			l := bits(p, a)
			for first := range 8 {
				for end := first; end < 8; end++ {
					mask := uint(1)<<(end+1) - uint(1)<<first
					got, why := ivl.Not(l, from(p+int64(first), p+int64(end)))
					if !slices.Equal(got, bits(p, ^a&mask)) || why != api.OK {
						t.Fatalf("Not(%v) within %d to %d: %v, error %d", l, p+int64(first), p+int64(end), got, why)
					}
				}
			}
			want := row(edges(l), func(x int64) bool { return !plainHas(l, x) })
			got, why := ivl.Not(l, always)
			if !slices.Equal(got, want) || why != api.OK {
				t.Fatalf("Not(%v): %v, error %d", l, got, why)
			}
			if back, why := ivl.Not(got, always); !slices.Equal(back, l) || why != api.OK {
				t.Fatalf("Not of Not of %v: %v, error %d", l, back, why)
			}
		}
	}
}

func TestNotAtTheEdges(t *testing.T) {
	two := []api.Ivl{from(0, 3), from(5, 7)}
	for _, c := range []struct {
		say    string
		l      []api.Ivl
		within api.Ivl
		want   []api.Ivl
		why    api.Errno
	}{
		{"the example", two, from(0, 9), []api.Ivl{from(4, 4), from(8, 9)}, api.OK},
		{"none", nil, from(3, 5), []api.Ivl{from(3, 5)}, api.OK},
		{"none, of all", nil, always, []api.Ivl{always}, api.OK},
		{"all, of all", []api.Ivl{always}, always, nil, api.OK},
		{"all of it", two, from(5, 7), nil, api.OK},
		{"amid one", two, from(6, 6), nil, api.OK},
		{"between both", two, from(4, 4), []api.Ivl{from(4, 4)}, api.OK},
		{"behind both", two, from(8, last), []api.Ivl{from(8, last)}, api.OK},
		{"far behind both", two, from(100, 200), []api.Ivl{from(100, 200)}, api.OK},
		{"ahead of all", []api.Ivl{from(5, 7), from(9, 9)}, from(0, 3), []api.Ivl{from(0, 3)}, api.OK},
		{"right ahead of all", []api.Ivl{from(5, 7), from(9, 9)}, from(0, 4), []api.Ivl{from(0, 4)}, api.OK},
		{"over the first one's beginning", []api.Ivl{from(5, 7), from(9, 9)}, from(3, 5), []api.Ivl{from(3, 4)}, api.OK},
		{"over an end", two, from(2, 5), []api.Ivl{from(4, 4)}, api.OK},
		{"the last time", []api.Ivl{from(0, last-1)}, always, []api.Ivl{from(last, last)}, api.OK},
		{"the first time", []api.Ivl{from(1, last)}, always, []api.Ivl{from(0, 0)}, api.OK},
		{"within is turned", two, from(3, 2), nil, api.ErrForm},
		{"within begins below 0", two, from(-1, 2), nil, api.ErrForm},
		{"within ends above MaxTime", two, from(0, last+1), nil, api.ErrForm},
		{"within is above MaxTime", nil, from(last+1, last+1), nil, api.ErrForm},
		{"within is all numbers", nil, from(least, most), nil, api.ErrForm},
		{"MaxIvls, from one time ahead on", spaced(1, limit), from(0, 2*limit-1), spaced(0, limit), api.OK},
		{"MaxIvls, up to one time behind", spaced(0, limit), from(0, 2*limit-1), spaced(1, limit), api.OK},
		{"MaxIvls, on both sides", spaced(1, limit), from(0, 2*limit), nil, api.ErrLong},
		{"MaxIvls, of all", spaced(1, limit), always, nil, api.ErrLong},
		{"one less, of all", spaced(1, limit-1), always, append(spaced(0, limit-1), from(2*limit-2, last)), api.OK},
	} {
		if got, why := ivl.Not(c.l, c.within); !slices.Equal(got, c.want) || why != c.why {
			t.Errorf("Not, %s: %.60v, error %d", c.say, got, why)
		}
	}
}

func TestHasOfAnyNumber(t *testing.T) {
	for _, l := range [][]api.Ivl{nil, {always}, {from(0, 0)}, {from(last, last)}, {from(0, 3), from(5, 7)}, spaced(0, limit)} {
		for _, x := range []int64{least, least + 1, least + 5, -last, -1 << 32, -1, 0, 1, 3, 4, 5, 7, 8, 1 << 32, last - 1, last, last + 1, 1<<62 + 5, most} {
			if is, why := ivl.Has(l, x); is != plainHas(l, x) || why != api.OK {
				t.Errorf("Has(%.60v, %d): %t, error %d", l, x, is, why)
			}
		}
	}
}

func TestOrAndAndUpToMaxIvls(t *testing.T) {
	odd, even := spaced(1, limit), spaced(0, limit)
	for _, c := range []struct {
		say  string
		call func([]api.Ivl, []api.Ivl) ([]api.Ivl, api.Errno)
		a, b []api.Ivl
		want []api.Ivl
		why  api.Errno
	}{
		{"Or that is one", ivl.Or, odd, even, []api.Ivl{from(0, 2*limit-1)}, api.OK},
		{"Or that is MaxIvls", ivl.Or, spaced(0, limit-1), []api.Ivl{from(1<<20, last)}, append(spaced(0, limit-1), from(1<<20, last)), api.OK},
		{"Or of halves", ivl.Or, spaced(0, limit/2), spaced(limit, limit/2), even, api.OK},
		{"Or of itself", ivl.Or, even, even, even, api.OK},
		{"Or that is one more", ivl.Or, even, []api.Ivl{from(1<<20, last)}, nil, api.ErrLong},
		{"Or of far ones", ivl.Or, even, spaced(1<<20, limit), nil, api.ErrLong},
		{"Or of far ones, turned", ivl.Or, spaced(1<<20, limit), even, nil, api.ErrLong},
		{"And that is none", ivl.And, odd, even, nil, api.OK},
		{"And of itself", ivl.And, even, even, even, api.OK},
		{"And with all", ivl.And, []api.Ivl{always}, odd, odd, api.OK},
	} {
		if got, why := c.call(c.a, c.b); !slices.Equal(got, c.want) || why != c.why {
			t.Errorf("%s: %.60v, error %d", c.say, got, why)
		}
	}
}

// Two rows of MaxIvls can have up to one less than twice as many intervals in common.
func TestAndThatIsTooLong(t *testing.T) {
	var a, b []api.Ivl
	for i := range int64(limit) {
		a = append(a, from(10*i, 10*i+7))
		b = append(b, from(10*i+5, 10*i+12))
	}
	if got, why := ivl.And(a, b); len(got) != 0 || why != api.ErrLong {
		t.Errorf("And: %d intervals, error %d", len(got), why)
	}
	half, want := b[:limit/2], []api.Ivl{}
	for i := range int64(limit / 2) {
		want = append(want, from(10*i+5, 10*i+7), from(10*i+10, 10*i+12))
	}
	if got, why := ivl.And(a, half); !slices.Equal(got, want) || why != api.OK {
		t.Errorf("And of MaxIvls: %d intervals, error %d", len(got), why)
	}
	if got, why := ivl.And(a, b[:limit/2+1]); len(got) != 0 || why != api.ErrLong {
		t.Errorf("And of some more: %d intervals, error %d", len(got), why)
	}
}

func TestSetsByChance(t *testing.T) {
	r := rand.New(rand.NewSource(192))
	for range 1000 {
		a, _ := ivl.Make(someIvls(r, r.Intn(12))...)
		b, _ := ivl.Make(someIvls(r, r.Intn(12))...)
		within := from(0, last)
		if some := someIvls(r, 2); r.Intn(4) > 0 {
			within = from(min(some[0].From, some[1].From), max(some[0].To, some[1].To))
		}
		at := edges(a, b, []api.Ivl{within})
		in := []api.Ivl{within}
		or := row(at, func(x int64) bool { return plainHas(a, x) || plainHas(b, x) })
		and := row(at, func(x int64) bool { return plainHas(a, x) && plainHas(b, x) })
		not := row(at, func(x int64) bool { return plainHas(in, x) && !plainHas(a, x) })
		if got, why := ivl.Or(a, b); !slices.Equal(got, or) || why != api.OK {
			t.Fatalf("Or(%v, %v): %v, error %d", a, b, got, why)
		}
		if got, why := ivl.And(a, b); !slices.Equal(got, and) || why != api.OK {
			t.Fatalf("And(%v, %v): %v, error %d", a, b, got, why)
		}
		if got, why := ivl.Not(a, within); !slices.Equal(got, not) || why != api.OK {
			t.Fatalf("Not(%v, %v): %v, error %d", a, within, got, why)
		}
		for _, x := range at {
			if is, why := ivl.Has(a, x); is != plainHas(a, x) || why != api.OK {
				t.Fatalf("Has(%v, %d): %t, error %d", a, x, is, why)
			}
		}
	}
}

// Long rows, that are often too long together.
func TestLongSetsByChance(t *testing.T) {
	r := rand.New(rand.NewSource(193))
	tooLong := 0
	for range 40 {
		long := func() []api.Ivl {
			var l []api.Ivl
			at := r.Int63n(5)
			for range 500 + r.Intn(limit-500) {
				to := at + r.Int63n(12)
				l = append(l, from(at, to))
				at = to + 2 + r.Int63n(3)
			}
			return l
		}
		a, b := long(), long()
		at := edges(a, b)
		for _, c := range []struct {
			say  string
			call func([]api.Ivl, []api.Ivl) ([]api.Ivl, api.Errno)
			has  func(int64) bool
		}{
			{"Or", ivl.Or, func(x int64) bool { return plainHas(a, x) || plainHas(b, x) }},
			{"And", ivl.And, func(x int64) bool { return plainHas(a, x) && plainHas(b, x) }},
		} {
			want, why := limited(row(at, c.has))
			if why == api.ErrLong {
				tooLong++
			}
			if got, is := c.call(a, b); !slices.Equal(got, want) || is != why {
				t.Fatalf("%s of %d and %d intervals: %d, error %d", c.say, len(a), len(b), len(got), is)
			}
		}
	}
	if tooLong == 0 {
		t.Error("none was too long")
	}
}

func TestLong(t *testing.T) {
	for _, c := range []struct {
		l    []api.Ivl
		want int64
	}{
		{nil, 0}, {[]api.Ivl{from(5, 5)}, 1}, {[]api.Ivl{from(0, 3), from(5, 7)}, 7}, {[]api.Ivl{always}, last + 1}, {[]api.Ivl{from(0, 0), from(2, last)}, last},
		{spaced(0, limit), limit}, {[]api.Ivl{from(last, last)}, 1},
	} {
		if got, why := ivl.Long(c.l); got != c.want || why != api.OK {
			t.Errorf("Long(%.60v): %d, error %d", c.l, got, why)
		}
	}
}

func TestHowMany(t *testing.T) {
	r := rand.New(rand.NewSource(195))
	long := func(l []api.Ivl, why api.Errno) int64 {
		t.Helper()
		many, is := ivl.Long(l)
		if why != api.OK || is != api.OK || many != plainLong(l) {
			t.Fatalf("Long(%v): %d, errors %d, %d", l, many, why, is)
		}
		return many
	}
	for range 1000 {
		a, _ := ivl.Make(someIvls(r, r.Intn(12))...)
		b, _ := ivl.Make(someIvls(r, r.Intn(12))...)
		if long(ivl.Or(a, b))+long(ivl.And(a, b)) != long(a, api.OK)+long(b, api.OK) {
			t.Fatalf("Or and And of %v, %v", a, b)
		}
		within := always
		if len(a) > 0 && r.Intn(2) == 0 {
			within = from(a[0].From, a[len(a)-1].To)
		}
		if long(a, api.OK)+long(ivl.Not(a, within)) != within.To-within.From+1 {
			t.Fatalf("Not of %v within %v", a, within)
		}
	}
}

// 19.3

// held makes a call of a list with room behind it, and tells whether what was handed in is as it was, and the answer of its own memory.
func held(t *testing.T, say string, l []api.Ivl, call func([]api.Ivl) []api.Ivl) {
	t.Helper()
	mark := from(77, -77)
	room := append(slices.Clone(l), mark, mark, mark)
	was := slices.Clone(room)
	got := call(room[:len(l)])
	if !slices.Equal(room, was) {
		t.Errorf("%s of %.60v changes what it was handed", say, l)
	}
	answer := slices.Clone(got)
	clear(got[:cap(got)])
	if !slices.Equal(room, was) {
		t.Errorf("%s of %.60v shares its answer's memory", say, l)
	}
	if again := call(room[:len(l)]); !slices.Equal(again, answer) {
		t.Errorf("%s of %.60v: %.60v, then %.60v", say, l, answer, again)
	}
	kept := call(room[:len(l)])
	clear(room)
	if !slices.Equal(kept, answer) {
		t.Errorf("%s of %.60v hangs on what it was handed", say, l)
	}
}

func TestAnswersAreNewMemory(t *testing.T) {
	for _, l := range [][]api.Ivl{nil, {from(3, 5)}, {from(3, 5), from(8, 9)}, {always}, spaced(0, 100)} {
		falling := slices.Clone(l)
		slices.Reverse(falling)
		held(t, "Make, falling,", falling, func(l []api.Ivl) []api.Ivl { r, _ := ivl.Make(l...); return r })
		held(t, "Make", l, func(l []api.Ivl) []api.Ivl { r, _ := ivl.Make(l...); return r })
		for _, within := range []api.Ivl{always, from(4, 8), from(3, 5), from(1<<20, last)} {
			held(t, "Not", l, func(l []api.Ivl) []api.Ivl { r, _ := ivl.Not(l, within); return r })
		}
		for _, other := range [][]api.Ivl{nil, {from(4, 8)}, {always}} {
			held(t, "Or", l, func(l []api.Ivl) []api.Ivl { r, _ := ivl.Or(l, other); return r })
			held(t, "Or", l, func(l []api.Ivl) []api.Ivl { r, _ := ivl.Or(other, l); return r })
			held(t, "And", l, func(l []api.Ivl) []api.Ivl { r, _ := ivl.And(l, other); return r })
			held(t, "And", l, func(l []api.Ivl) []api.Ivl { r, _ := ivl.And(other, l); return r })
		}
		held(t, "Or of itself", l, func(l []api.Ivl) []api.Ivl { r, _ := ivl.Or(l, l); return r })
		held(t, "And of itself", l, func(l []api.Ivl) []api.Ivl { r, _ := ivl.And(l, l); return r })
		held(t, "Has, Long, Check", l, func(l []api.Ivl) []api.Ivl {
			is, _ := ivl.Has(l, 4)
			many, _ := ivl.Long(l)
			if is {
				many = -many
			}
			return []api.Ivl{from(many, int64(ivl.Check(l)))}
		})
	}
}

// P1, P3, P4

func TestNilAndEmptyAreAlike(t *testing.T) {
	none, l := []api.Ivl{}, []api.Ivl{from(3, 5)}
	tell := func(nothing []api.Ivl) string {
		made, w1 := ivl.Make(nothing...)
		is, w2 := ivl.Has(nothing, 0)
		or, w3 := ivl.Or(nothing, l)
		ro, w4 := ivl.Or(l, nothing)
		and, w5 := ivl.And(nothing, l)
		dna, w6 := ivl.And(l, nothing)
		not, w7 := ivl.Not(nothing, always)
		many, w8 := ivl.Long(nothing)
		return fmt.Sprint(ivl.Check(nothing), made, w1, is, w2, or, w3, ro, w4, and, w5, dna, w6, not, w7, many, w8)
	}
	if tell(nil) != tell(none) {
		t.Errorf("nil: %s, empty: %s", tell(nil), tell(none))
	}
}

// fuzzed makes intervals of bytes: right ones and others, near each other.
func fuzzed(s []byte) []api.Ivl {
	var l []api.Ivl
	for len(s) >= 3 {
		base := []int64{0, 0, 0, 1<<32 - 100, last - 255, last - 100, -100, most - 300, least}[int(s[0])%9]
		a := base + int64(s[1])
		l = append(l, from(a, a+int64(int8(s[2]))))
		s = s[3:]
	}
	return l
}

func FuzzSets(f *testing.F) {
	f.Add([]byte{0, 1, 2, 0, 9, 3}, []byte{0, 0, 7}, int64(0), int64(5))
	f.Add([]byte{15, 99, 2, 3, 0, 3}, []byte{4, 50, 7}, last-100, last)
	f.Add([]byte{7, 99, 2, 8, 0, 3}, []byte{6, 50, 7}, least, most)
	f.Fuzz(func(t *testing.T, s, u []byte, x, y int64) {
		if len(s) > 90 || len(u) > 90 {
			return
		}
		a, b, within := fuzzed(s), fuzzed(u), from(x, y)
		made, why := ivl.Make(a...)
		if slices.ContainsFunc(a, func(i api.Ivl) bool { return !plainRight(i) }) {
			if len(made) > 0 || why != api.ErrForm {
				t.Errorf("Make(%v): %v, error %d", a, made, why)
			}
		} else if want := row(edges(a), func(x int64) bool { return plainHas(a, x) }); !slices.Equal(made, want) || why != api.OK {
			t.Errorf("Make(%v): %v, error %d", a, made, why)
		}
		if ivl.Check(a) != plainCheck(a) || ivl.Check(b) != plainCheck(b) {
			t.Errorf("Check of %v or %v", a, b)
		}
		if why == api.OK {
			a = made
		}
		if n, why := ivl.Make(b...); why == api.OK {
			b = n
		}
		bad := max(plainCheck(a), plainCheck(b))
		or, w1 := ivl.Or(a, b)
		and, w2 := ivl.And(a, b)
		not, w3 := ivl.Not(a, within)
		is, w4 := ivl.Has(a, x)
		many, w5 := ivl.Long(a)
		if w1 != bad || w2 != bad || w4 != plainCheck(a) || w5 != plainCheck(a) || (w3 == api.OK) != (plainRight(within) && w4 == api.OK) {
			t.Fatalf("%v, %v: errors %d, %d, %d, %d, %d", a, b, w1, w2, w3, w4, w5)
		}
		if w4 == api.OK && (is != plainHas(a, x) || many != plainLong(a)) {
			t.Errorf("Has(%v, %d): %t; Long: %d", a, x, is, many)
		}
		at := edges(a, b, []api.Ivl{within})
		if w3 == api.OK && !slices.Equal(not, row(at, func(z int64) bool { return x <= z && z <= y && !plainHas(a, z) })) {
			t.Errorf("Not(%v, %v): %v", a, within, not)
		}
		if bad != api.OK {
			return
		}
		if !slices.Equal(or, row(at, func(x int64) bool { return plainHas(a, x) || plainHas(b, x) })) {
			t.Errorf("Or(%v, %v): %v", a, b, or)
		}
		if !slices.Equal(and, row(at, func(x int64) bool { return plainHas(a, x) && plainHas(b, x) })) {
			t.Errorf("And(%v, %v): %v", a, b, and)
		}
	})
}

// All calls answer at all numbers.
func TestAnyNumbers(t *testing.T) {
	some := []int64{least, least + 1, -1, 0, 1, last, last + 1, most - 1, most}
	for _, a := range some {
		for _, b := range some {
			for _, c := range some {
				for _, d := range some {
					l := []api.Ivl{from(a, b), from(c, d)}
					if ivl.Check(l) != plainCheck(l) {
						t.Errorf("Check(%v): %d", l, ivl.Check(l))
					}
					ivl.Make(l...)
					ivl.Has(l[:1], c)
					ivl.Or(l[:1], l[1:])
					ivl.And(l[:1], l[1:])
					ivl.Not(l[:1], l[1])
					ivl.Long(l)
				}
			}
		}
	}
}

func TestNoGoroutineIsLeft(t *testing.T) {
	was := runtime.NumGoroutine()
	l := spaced(0, 500)
	ivl.Make(l...)
	ivl.Has(l, 7)
	ivl.Or(l, l)
	ivl.And(l, l)
	ivl.Not(l, always)
	ivl.Long(l)
	if is := runtime.NumGoroutine(); is > was {
		t.Errorf("%d goroutines, then %d", was, is)
	}
}
