package span_test

import (
	"cmp"
	"fmt"
	"math"
	"math/big"
	"math/bits"
	"math/rand"
	"runtime"
	"slices"
	"testing"

	"spoor/addr"
	"spoor/api"
	"spoor/span"
)

// The calls have the signatures of doc/10-span.md.
var (
	_ func(bool, []api.Span) api.Errno                           = span.Check
	_ func(bool, ...api.Span) ([]api.Span, api.Errno)            = span.Make
	_ func(bool, []api.Span, api.Addr) (bool, api.Errno)         = span.Has
	_ func(bool, []api.Span, []api.Span) ([]api.Span, api.Errno) = span.Or
	_ func(bool, []api.Span, []api.Span) ([]api.Span, api.Errno) = span.And
	_ func(bool, []api.Span) ([]api.Span, api.Errno)             = span.Not
	_ func(api.Prefix) (api.Span, api.Errno)                     = span.Of
	_ func(bool, []api.Span) ([]api.Prefix, api.Errno)           = span.Prefixes
)

var kinds = []bool{false, true}

const most = uint64(math.MaxUint64)

// What follows is plain, by numbers of any size.

func power(n int) *big.Int {
	return new(big.Int).Lsh(big.NewInt(1), uint(n))
}

func wide(six bool) int {
	if six {
		return 128
	}
	return 32
}

func number(a api.Addr) *big.Int {
	n := new(big.Int).Mul(power(64), new(big.Int).SetUint64(a.Hi))
	return n.Add(n, new(big.Int).SetUint64(a.Lo))
}

func address(n *big.Int) api.Addr {
	hi, lo := new(big.Int).DivMod(n, power(64), new(big.Int))
	return api.Addr{Hi: hi.Uint64(), Lo: lo.Uint64()}
}

// greatest is the last address of a kind.
func greatest(six bool) api.Addr {
	return address(new(big.Int).Sub(power(wide(six)), big.NewInt(1)))
}

func isAddress(six bool, a api.Addr) bool {
	return number(a).Cmp(power(wide(six))) < 0
}

func plainSpan(six bool, s api.Span) bool {
	return isAddress(six, s.From) && isAddress(six, s.To) && number(s.From).Cmp(number(s.To)) <= 0
}

// plainCheck is Check by the document's words.
func plainCheck(six bool, l []api.Span) api.Errno {
	if len(l) > 1024 {
		return api.ErrForm
	}
	for i, s := range l {
		if !plainSpan(six, s) {
			return api.ErrForm
		}
		if i == 0 {
			continue
		}
		if next := new(big.Int).Add(number(l[i-1].To), big.NewInt(1)); number(s.From).Cmp(next) <= 0 {
			return api.ErrForm
		}
	}
	return api.OK
}

// plainHas tells whether an address is in one of any spans.
func plainHas(l []api.Span, a api.Addr) bool {
	return slices.ContainsFunc(l, func(s api.Span) bool { return !below(a, s.From) && !below(s.To, a) })
}

// below tells whether a's number is less than b's, without the cost of numbers of any size.
func below(a, b api.Addr) bool {
	return a.Hi < b.Hi || a.Hi == b.Hi && a.Lo < b.Lo
}

// edges are all addresses at which a set of such spans may begin or end, with their neighbours, in order.
func edges(six bool, lists ...[]api.Span) []api.Addr {
	l := []api.Addr{{}, greatest(six)}
	for _, s := range slices.Concat(lists...) {
		for _, a := range []api.Addr{s.From, s.To} {
			for by := int64(-1); by <= 1; by++ {
				n := new(big.Int).Add(number(a), big.NewInt(by))
				if n.Sign() >= 0 && n.Cmp(power(wide(six))) < 0 {
					l = append(l, address(n))
				}
			}
		}
	}
	slices.SortFunc(l, func(a, b api.Addr) int { return cmp.Or(cmp.Compare(a.Hi, b.Hi), cmp.Compare(a.Lo, b.Lo)) })
	return slices.Compact(l)
}

// row is the row of the addresses that a set has, which begins and ends at edges alone.
func row(six bool, at []api.Addr, has func(api.Addr) bool) []api.Span {
	var l []api.Span
	in := false
	for i, a := range at {
		switch is := has(a); {
		case is && !in:
			l = append(l, api.Span{From: a, To: greatest(six)})
			in = true
		case !is && in:
			l[len(l)-1].To = at[i-1]
			in = false
		}
	}
	return l
}

// limited is what a call answers whose row this is.
func limited(l []api.Span) ([]api.Span, api.Errno) {
	if len(l) > 1024 {
		return nil, api.ErrLong
	}
	return l, api.OK
}

func four(from, to uint64) api.Span {
	return api.Span{From: api.Addr{Lo: from}, To: api.Addr{Lo: to}}
}

func between(from, to api.Addr) api.Span {
	return api.Span{From: from, To: to}
}

// spaced are spans of one address each, every other one, the first at from.
func spaced(from uint64, many int) []api.Span {
	var l []api.Span
	for i := range many {
		l = append(l, four(from+2*uint64(i), from+2*uint64(i)))
	}
	return l
}

// place is eight addresses in a row, of a kind; base is the first one.
type place struct {
	six  bool
	base api.Addr
}

// places lie at the ends of all addresses, amid them, and at the ends of Lo; the eight of each are a prefix.
func places() []place {
	return []place{
		{false, api.Addr{}}, {false, api.Addr{Lo: 10<<24 - 8}}, {false, api.Addr{Lo: 1<<32 - 8}}, {true, api.Addr{}}, {true, api.Addr{Lo: 1<<32 - 8}},
		{true, api.Addr{Hi: 6, Lo: most - 7}}, {true, api.Addr{Hi: most, Lo: most - 7}},
	}
}

// turning has addresses of two unlike Hi, and so is no multiple of 8.
func turning() place {
	return place{true, api.Addr{Hi: 6, Lo: most - 3}}
}

// at is the address of a place, by its number.
func (p place) at(i int) api.Addr {
	return address(new(big.Int).Add(number(p.base), big.NewInt(int64(i))))
}

// row is the row of the addresses whose bits are ones.
func (p place) row(set uint) []api.Span {
	var l []api.Span
	for i := 0; i < 8; i++ {
		if set>>i&1 == 0 {
			continue
		}
		from := i
		for i < 7 && set>>(i+1)&1 == 1 {
			i++
		}
		l = append(l, between(p.at(from), p.at(i)))
	}
	return l
}

// ends tells whether a place begins with the first address of all, and whether it ends with the last one.
func (p place) ends() (bool, bool) {
	return p.base == api.Addr{}, p.at(7) == greatest(p.six)
}

// 10.1

func TestCheckAtTheEdges(t *testing.T) {
	last4, last6 := uint64(1<<32-1), greatest(true)
	for _, c := range []struct {
		say  string
		six  bool
		l    []api.Span
		want api.Errno
	}{
		{"nil", false, nil, api.OK},
		{"none", true, []api.Span{}, api.OK},
		{"one address", false, []api.Span{four(5, 5)}, api.OK},
		{"all of IPv4", false, []api.Span{four(0, last4)}, api.OK},
		{"all of IPv6", true, []api.Span{between(api.Addr{}, last6)}, api.OK},
		{"one between", false, []api.Span{four(0, 2), four(4, 5)}, api.OK},
		{"none between", false, []api.Span{four(0, 2), four(3, 5)}, api.ErrForm},
		{"one in both", false, []api.Span{four(0, 2), four(2, 5)}, api.ErrForm},
		{"one within another", false, []api.Span{four(0, 9), four(2, 5)}, api.ErrForm},
		{"twice", false, []api.Span{four(0, 2), four(0, 2)}, api.ErrForm},
		{"falling", false, []api.Span{four(7, 8), four(2, 5)}, api.ErrForm},
		{"the last is wrong", false, []api.Span{four(0, 2), four(4, 5), four(6, 7)}, api.ErrForm},
		{"turned", false, []api.Span{four(3, 2)}, api.ErrForm},
		{"turned at the end", false, []api.Span{four(1, 2), four(9, 8)}, api.ErrForm},
		{"To is none of IPv4", false, []api.Span{four(0, last4+1)}, api.ErrForm},
		{"From is none of IPv4", false, []api.Span{four(last4+1, last4+1)}, api.ErrForm},
		{"Hi in From", false, []api.Span{between(api.Addr{Hi: 1}, api.Addr{Lo: 5})}, api.ErrForm},
		{"Hi in both", false, []api.Span{between(api.Addr{Hi: 1}, api.Addr{Hi: 1})}, api.ErrForm},
		{"it is one of IPv6", true, []api.Span{four(0, last4+1)}, api.OK},
		{"behind the last one of IPv4", false, []api.Span{four(5, last4), four(0, 2)}, api.ErrForm},
		{"behind the last one of IPv6", true, []api.Span{between(api.Addr{Lo: 9}, last6), four(0, 2)}, api.ErrForm},
		{"over Lo's end, none between", true, []api.Span{four(0, most), between(api.Addr{Hi: 1}, api.Addr{Hi: 1})}, api.ErrForm},
		{"over Lo's end, one between", true, []api.Span{four(0, most), between(api.Addr{Hi: 1, Lo: 1}, api.Addr{Hi: 1, Lo: 1})}, api.OK},
		{"Hi falls, Lo rises", true, []api.Span{between(api.Addr{Hi: 2}, api.Addr{Hi: 1, Lo: 5})}, api.ErrForm},
		{"Hi rises, Lo falls", true, []api.Span{between(api.Addr{Hi: 1, Lo: 5}, api.Addr{Hi: 2})}, api.OK},
		{"MaxSpans", false, spaced(0, 1024), api.OK},
		{"one more", false, spaced(0, 1025), api.ErrForm},
		{"many more", true, spaced(0, 5000), api.ErrForm},
	} {
		if got := span.Check(c.six, c.l); got != c.want || plainCheck(c.six, c.l) != c.want {
			t.Errorf("Check of %s: error %d", c.say, got)
		}
	}
}

func TestRowsThatAreNotRightAreRefused(t *testing.T) {
	good := []api.Span{four(1, 2)}
	for _, bad := range [][]api.Span{{four(3, 2)}, {four(0, 2), four(3, 3)}, {four(4, 5), four(0, 1)}, {four(0, 1<<32)}, spaced(0, 1025), {four(1, 2), {From: api.Addr{Hi: 1}, To: api.Addr{Hi: 1}}}} {
		if is, why := span.Has(false, bad, api.Addr{Lo: 1}); is || why != api.ErrForm {
			t.Errorf("Has of %.60v: %t, error %d", bad, is, why)
		}
		for _, pair := range [][2][]api.Span{{bad, good}, {good, bad}, {bad, nil}, {nil, bad}, {bad, bad}} {
			if l, why := span.Or(false, pair[0], pair[1]); len(l) > 0 || why != api.ErrForm {
				t.Errorf("Or of %.60v: %.60v, error %d", pair, l, why)
			}
			if l, why := span.And(false, pair[0], pair[1]); len(l) > 0 || why != api.ErrForm {
				t.Errorf("And of %.60v: %.60v, error %d", pair, l, why)
			}
		}
		if l, why := span.Not(false, bad); len(l) > 0 || why != api.ErrForm {
			t.Errorf("Not of %.60v: %.60v, error %d", bad, l, why)
		}
		if l, why := span.Prefixes(false, bad); len(l) > 0 || why != api.ErrForm {
			t.Errorf("Prefixes of %.60v: %.60v, error %d", bad, l, why)
		}
	}
}

// What is wrong is told ahead of what is too long.
func TestFormIsAheadOfLong(t *testing.T) {
	many, bad := spaced(1, 1024), []api.Span{four(1<<20, 1<<20), four(1<<20+1, 1<<20+1)}
	if _, why := span.Or(false, many, bad); why != api.ErrForm {
		t.Errorf("Or: error %d", why)
	}
	if _, why := span.Or(false, bad, many); why != api.ErrForm {
		t.Errorf("Or: error %d", why)
	}
	if _, why := span.Not(false, spaced(1, 1025)); why != api.ErrForm {
		t.Errorf("Not: error %d", why)
	}
}

func TestMakeAtTheEdges(t *testing.T) {
	last := uint64(1<<32 - 1)
	for _, c := range []struct {
		say  string
		six  bool
		l    []api.Span
		want []api.Span
		why  api.Errno
	}{
		{"none", false, nil, nil, api.OK},
		{"one", false, []api.Span{four(3, 5)}, []api.Span{four(3, 5)}, api.OK},
		{"touching", false, []api.Span{four(3, 5), four(6, 6)}, []api.Span{four(3, 6)}, api.OK},
		{"touching, falling", false, []api.Span{four(6, 6), four(3, 5)}, []api.Span{four(3, 6)}, api.OK},
		{"apart", false, []api.Span{four(3, 5), four(7, 7)}, []api.Span{four(3, 5), four(7, 7)}, api.OK},
		{"one within another", false, []api.Span{four(0, 9), four(2, 3), four(5, 6)}, []api.Span{four(0, 9)}, api.OK},
		{"the same beginning", false, []api.Span{four(0, 2), four(0, 9), four(0, 5)}, []api.Span{four(0, 9)}, api.OK},
		{"the same twice", false, []api.Span{four(4, 4), four(4, 4)}, []api.Span{four(4, 4)}, api.OK},
		{"up to the last one", false, []api.Span{four(9, last), four(last, last), four(3, last)}, []api.Span{four(3, last)}, api.OK},
		{"all", false, []api.Span{four(9, last), four(0, 8)}, []api.Span{four(0, last)}, api.OK},
		{"over Lo's end", true, []api.Span{between(api.Addr{Hi: 1}, api.Addr{Hi: 2}), four(7, most)}, []api.Span{between(api.Addr{Lo: 7}, api.Addr{Hi: 2})}, api.OK},
		{"one turned", false, []api.Span{four(3, 5), four(2, 1)}, nil, api.ErrForm},
		{"one of IPv6", false, []api.Span{four(3, 5), four(2, last+1)}, nil, api.ErrForm},
		{"the first of IPv6", false, []api.Span{{From: api.Addr{Hi: 1}, To: api.Addr{Hi: 1}}, four(3, 5)}, nil, api.ErrForm},
		{"MaxSpans", false, spaced(0, 1024), spaced(0, 1024), api.OK},
		{"one more", false, spaced(0, 1025), nil, api.ErrLong},
		{"one more, that come to one", false, slices.Repeat([]api.Span{four(1, 2)}, 1025), nil, api.ErrLong},
		{"MaxSpans, that come to one", false, slices.Repeat([]api.Span{four(1, 2)}, 1024), []api.Span{four(1, 2)}, api.OK},
		{"too many, and turned", false, slices.Repeat([]api.Span{four(2, 1)}, 1025), nil, api.ErrLong},
	} {
		if got, why := span.Make(c.six, c.l...); !slices.Equal(got, c.want) || why != c.why {
			t.Errorf("Make of %s: %.60v, error %d", c.say, got, why)
		}
	}
}

// someSpans are right spans of a kind, by chance, that meet often.
func someSpans(r *rand.Rand, six bool, many int) []api.Span {
	p := places()[r.Intn(3)]
	if six {
		p = places()[3+r.Intn(4)]
	}
	room := new(big.Int).Sub(power(wide(six)), number(p.base))
	var l []api.Span
	for range many {
		from, long := r.Intn(8*many), r.Intn(6)
		if r.Intn(20) == 0 {
			long = r.Intn(1 << 20)
		}
		a, b := big.NewInt(int64(from)), big.NewInt(int64(from+long))
		a.Mod(a, room)
		b.Mod(b, room)
		if a.Cmp(b) > 0 {
			a, b = b, a
		}
		l = append(l, between(address(a.Add(a, number(p.base))), address(b.Add(b, number(p.base)))))
	}
	return l
}

func TestMakeIsTheRowOfAll(t *testing.T) {
	r := rand.New(rand.NewSource(10))
	for round := range 600 {
		six := round%2 == 1
		l := someSpans(r, six, r.Intn(20))
		want := row(six, edges(six, l), func(a api.Addr) bool { return plainHas(l, a) })
		if got, why := span.Make(six, l...); !slices.Equal(got, want) || why != api.OK || plainCheck(six, got) != api.OK {
			t.Fatalf("Make(%t, %v): %v, error %d", six, l, got, why)
		}
	}
}

// 10.2, 10.5

func TestAllSetsOfEightAddresses(t *testing.T) {
	for _, p := range append(places(), turning()) {
		var rows [256][]api.Span
		for a := range rows {
			rows[a] = p.row(uint(a))
		}
		for a, l := range rows {
			for i := range 8 {
				if is, why := span.Has(p.six, l, p.at(i)); is != (a>>i&1 == 1) || why != api.OK {
					t.Fatalf("Has(%v, %x): %t, error %d", l, p.at(i), is, why)
				}
			}
			for b, m := range rows {
				if got, why := span.Or(p.six, l, m); !slices.Equal(got, rows[a|b]) || why != api.OK {
					t.Fatalf("Or(%v, %v): %v, error %d", l, m, got, why)
				}
				if got, why := span.And(p.six, l, m); !slices.Equal(got, rows[a&b]) || why != api.OK {
					t.Fatalf("And(%v, %v): %v, error %d", l, m, got, why)
				}
			}
		}
	}
}

func TestNotOfAllSetsOfEightAddresses(t *testing.T) {
	for _, p := range append(places(), turning()) {
		first, last := p.ends()
		for a := range uint(256) {
			outside := []api.Span{}
			if !first {
				outside = append(outside, between(api.Addr{}, address(new(big.Int).Sub(number(p.base), big.NewInt(1)))))
			}
			if !last {
				outside = append(outside, between(p.at(8), greatest(p.six)))
			}
			want, _ := span.Make(p.six, append(outside, p.row(^a&255)...)...)
			got, why := span.Not(p.six, p.row(a))
			if !slices.Equal(got, want) || why != api.OK {
				t.Fatalf("Not(%v): %v, error %d", p.row(a), got, why)
			}
			if back, why := span.Not(p.six, got); !slices.Equal(back, p.row(a)) || why != api.OK {
				t.Fatalf("Not of Not of %v: %v, error %d", p.row(a), back, why)
			}
		}
	}
}

func TestSetsByChance(t *testing.T) {
	r := rand.New(rand.NewSource(102))
	for round := range 300 {
		six := round%2 == 1
		a, _ := span.Make(six, someSpans(r, six, r.Intn(12))...)
		b, _ := span.Make(six, someSpans(r, six, r.Intn(12))...)
		at := edges(six, a, b)
		for _, c := range []struct {
			say string
			got func() ([]api.Span, api.Errno)
			has func(api.Addr) bool
		}{
			{"Or", func() ([]api.Span, api.Errno) { return span.Or(six, a, b) }, func(x api.Addr) bool { return plainHas(a, x) || plainHas(b, x) }},
			{"And", func() ([]api.Span, api.Errno) { return span.And(six, a, b) }, func(x api.Addr) bool { return plainHas(a, x) && plainHas(b, x) }},
			{"Not", func() ([]api.Span, api.Errno) { return span.Not(six, a) }, func(x api.Addr) bool { return !plainHas(a, x) }},
		} {
			got, why := c.got()
			if want, no := limited(row(six, at, c.has)); !slices.Equal(got, want) || why != no || plainCheck(six, got) != api.OK {
				t.Fatalf("%s of %v, %v: %v, error %d", c.say, a, b, got, why)
			}
		}
		for _, x := range at {
			if is, why := span.Has(six, a, x); is != plainHas(a, x) || why != api.OK {
				t.Fatalf("Has(%v, %x): %t, error %d", a, x, is, why)
			}
		}
	}
}

func TestHasRefusesWhatIsNoAddress(t *testing.T) {
	l := []api.Span{four(0, 1<<32-1)}
	for _, a := range []api.Addr{{Lo: 1 << 32}, {Hi: 1}, {Hi: most, Lo: most}} {
		for _, row := range [][]api.Span{nil, l} {
			if is, why := span.Has(false, row, a); is || why != api.ErrForm {
				t.Errorf("Has(false, %v, %x): %t, error %d", row, a, is, why)
			}
			if is, why := span.Has(true, row, a); is || why != api.OK {
				t.Errorf("Has(true, %v, %x): %t, error %d", row, a, is, why)
			}
		}
	}
}

func TestNotOfNothingIsAll(t *testing.T) {
	for _, six := range kinds {
		all := []api.Span{between(api.Addr{}, greatest(six))}
		if got, why := span.Not(six, nil); !slices.Equal(got, all) || why != api.OK {
			t.Errorf("Not(%t, nil): %v, error %d", six, got, why)
		}
		if got, why := span.Not(six, all); len(got) != 0 || why != api.OK {
			t.Errorf("Not(%t, all): %v, error %d", six, got, why)
		}
	}
}

// The greatest rows that may be answered, and those of one span more.
func TestAnswersOfMaxSpans(t *testing.T) {
	long := func(say string, got []api.Span, why api.Errno, many int) {
		t.Helper()
		if many > 1024 {
			if len(got) > 0 || why != api.ErrLong {
				t.Errorf("%s of %d: %d spans, error %d", say, many, len(got), why)
			}
			return
		}
		if len(got) != many || why != api.OK || plainCheck(false, got) != api.OK {
			t.Errorf("%s of %d: %d spans, error %d", say, many, len(got), why)
		}
	}
	for _, c := range [][2]int{{512, 512}, {1024, 0}, {0, 1024}, {512, 513}, {1024, 1}, {1, 1024}, {1024, 1024}} {
		got, why := span.Or(false, spaced(0, c[0]), spaced(1<<20, c[1]))
		long("Or", got, why, c[0]+c[1])
	}
	// Two rows of alternating cuts: the runs of the one end amid those of the other one.
	for _, c := range [][2]int{{512, 513}, {513, 512}, {513, 513}, {1024, 1}, {1024, 2}, {2, 1024}, {1024, 1024}} {
		var a, b []api.Span
		for i := range uint64(c[0]) {
			a = append(a, four(1000*i, 1000*i+997))
		}
		for i := range uint64(c[1]) {
			b = append(b, four(1000*i+500, 1000*i+1498))
		}
		want := row(false, edges(false, a, b), func(x api.Addr) bool { return plainHas(a, x) && plainHas(b, x) })
		got, why := span.And(false, a, b)
		long("And", got, why, len(want))
	}
	for many, first := range map[int]uint64{1023: 1, 1024: 0} {
		got, why := span.Not(false, spaced(first, many))
		long("Not", got, why, 1024)
	}
	got, why := span.Not(false, spaced(1, 1024))
	long("Not", got, why, 1025)
	got, why = span.Not(false, spaced(1<<32-2047, 1024))
	long("Not", got, why, 1024)
	got, why = span.Not(false, append(append([]api.Span{four(0, 0)}, spaced(5, 1022)...), four(1<<32-1, 1<<32-1)))
	long("Not", got, why, 1023)
}

func TestOrOfManyThatComeToFew(t *testing.T) {
	got, why := span.Or(false, spaced(0, 1024), spaced(1, 1024))
	if !slices.Equal(got, []api.Span{four(0, 2047)}) || why != api.OK {
		t.Errorf("%v, error %d", got, why)
	}
}

// 10.3, 10.6

func TestOfIsThePrefixesSpan(t *testing.T) {
	for _, six := range kinds {
		for long := -2; long < 132; long++ {
			for _, a := range []api.Addr{{}, {Lo: 8}, {Lo: 10 << 24}, {Lo: 1<<32 - 1}, {Lo: 1 << 32}, {Hi: 1}, {Hi: most, Lo: most}} {
				p := api.Prefix{Six: six, Addr: a, Len: long}
				got, why := span.Of(p)
				want := api.Span{}
				if addr.Check(p) == api.OK {
					end := new(big.Int).Add(number(a), power(wide(six)-long))
					want = between(a, address(end.Sub(end, big.NewInt(1))))
				}
				if got != want || why != addr.Check(p) {
					t.Errorf("Of(%v): %v, error %d", p, got, why)
				}
			}
		}
	}
}

func TestExample(t *testing.T) {
	ten := uint64(10 << 24)
	got, why := span.Prefixes(false, []api.Span{four(ten, ten+2)})
	want := []api.Prefix{{Addr: api.Addr{Lo: ten}, Len: 31}, {Addr: api.Addr{Lo: ten + 2}, Len: 32}}
	if !slices.Equal(got, want) || why != api.OK {
		t.Errorf("%v, error %d", got, why)
	}
}

// fewest tells of each set of eight addresses how few of the fifteen prefixes in them have just the set, all choices gone through.
func fewest() [256]int {
	var covers []uint
	for size := 1; size <= 8; size *= 2 {
		for at := 0; at < 8; at += size {
			covers = append(covers, (1<<size-1)<<at)
		}
	}
	var few [256]int
	for i := range few {
		few[i] = 99
	}
	for choice := range uint(1) << len(covers) {
		var set uint
		for i, c := range covers {
			if choice>>i&1 == 1 {
				set |= c
			}
		}
		few[set] = min(few[set], bits.OnesCount(choice))
	}
	return few
}

// No choice of prefixes that have just the set is of fewer; where the eight addresses are a prefix themselves, none that is wider can take part but theirs.
func TestPrefixesAreTheFewest(t *testing.T) {
	few := fewest()
	for _, p := range places() {
		for a := range uint(256) {
			got, why := span.Prefixes(p.six, p.row(a))
			if len(got) != few[a] || why != api.OK {
				t.Fatalf("Prefixes(%v): %v, error %d", p.row(a), got, why)
			}
			just(t, p.six, p.row(a), got)
		}
	}
}

// just holds prefixes against the row whose set they have: by rising Addr, none in another one, no two halves of one, and all together the row.
func just(t *testing.T, six bool, l []api.Span, some []api.Prefix) {
	t.Helper()
	var spans []api.Span
	for i, p := range some {
		if p.Six != six || addr.Check(p) != api.OK {
			t.Fatalf("Prefixes(%v): %v is not right", l, p)
		}
		s, _ := span.Of(p)
		spans = append(spans, s)
		if i == 0 {
			continue
		}
		if number(spans[i-1].To).Cmp(number(s.From)) >= 0 {
			t.Fatalf("Prefixes(%v): %v and %v share addresses, or fall", l, some[i-1], p)
		}
		up := p
		up.Addr, up.Len = some[i-1].Addr, p.Len-1
		if low, high, why := addr.Halves(up); why == api.OK && low == some[i-1] && high == p {
			t.Fatalf("Prefixes(%v): %v and %v are halves of one", l, some[i-1], p)
		}
	}
	if !slices.Equal(l, joined(spans)) {
		t.Fatalf("Prefixes(%v): %v", l, some)
	}
}

// joined are rising spans that share nothing, those that touch put together.
func joined(l []api.Span) []api.Span {
	var some []api.Span
	for _, s := range l {
		last := len(some) - 1
		if last >= 0 && new(big.Int).Add(number(some[last].To), big.NewInt(1)).Cmp(number(s.From)) == 0 {
			some[last].To = s.To
			continue
		}
		some = append(some, s)
	}
	return some
}

// parted are the prefixes of a row, by going down from the one of all addresses.
func parted(p api.Prefix, l []api.Span) []api.Prefix {
	whole, _ := span.Of(p)
	meets := false
	for _, s := range l {
		if !below(whole.From, s.From) && !below(s.To, whole.To) {
			return []api.Prefix{p}
		}
		meets = meets || !below(whole.To, s.From) && !below(s.To, whole.From)
	}
	if !meets {
		return nil
	}
	low, high, _ := addr.Halves(p)
	return append(parted(low, l), parted(high, l)...)
}

func TestPrefixesByChance(t *testing.T) {
	r := rand.New(rand.NewSource(103))
	for round := range 120 {
		six := round%2 == 1
		some := someSpans(r, six, 1+r.Intn(4))
		if round%3 == 0 {
			a, b := new(big.Int).Rand(r, power(wide(six))), new(big.Int).Rand(r, power(wide(six)))
			if a.Cmp(b) > 0 {
				a, b = b, a
			}
			some = append(some, between(address(a), address(b)))
		}
		l, _ := span.Make(six, some...)
		got, why := span.Prefixes(six, l)
		if !slices.Equal(got, parted(api.Prefix{Six: six}, l)) || why != api.OK {
			t.Fatalf("Prefixes(%t, %v): %v, error %d", six, l, got, why)
		}
		just(t, six, l, got)
	}
}

func TestPrefixesOfAllAndOfNone(t *testing.T) {
	for _, six := range kinds {
		if got, why := span.Prefixes(six, nil); len(got) != 0 || why != api.OK {
			t.Errorf("Prefixes(%t, nil): %v, error %d", six, got, why)
		}
		all := []api.Span{between(api.Addr{}, greatest(six))}
		if got, why := span.Prefixes(six, all); !slices.Equal(got, []api.Prefix{{Six: six}}) || why != api.OK {
			t.Errorf("Prefixes(%t, all): %v, error %d", six, got, why)
		}
		// All but the first and the last one: one prefix of each length but the ends', from both sides.
		inner := []api.Span{between(api.Addr{Lo: 1}, address(new(big.Int).Sub(power(wide(six)), big.NewInt(2))))}
		got, why := span.Prefixes(six, inner)
		if len(got) != 2*wide(six)-2 || why != api.OK {
			t.Errorf("Prefixes(%t, all but two): %d of them, error %d", six, len(got), why)
		}
		just(t, six, inner, got)
	}
}

// The six addresses from 1 modulo 16 on are four prefixes (1, 2 and 3, 4 and 5, 6), the ten from there on five.
func TestPrefixesUpToMaxPrefixes(t *testing.T) {
	var l []api.Span
	for i := range uint64(1024) {
		l = append(l, four(16*i+1, 16*i+6))
	}
	got, why := span.Prefixes(false, l)
	if len(got) != 4096 || why != api.OK {
		t.Errorf("%d prefixes, error %d", len(got), why)
	}
	just(t, false, l, got)
	for _, at := range []int{0, 500, 1023} {
		more := slices.Clone(l)
		more[at].To.Lo += 4
		if got, why := span.Prefixes(false, more); len(got) != 0 || why != api.ErrLong {
			t.Errorf("one more at %d: %d prefixes, error %d", at, len(got), why)
		}
	}
	huge := spaced(1, 1024)
	huge[1023] = between(huge[1023].From, api.Addr{Hi: most, Lo: most - 1})
	if got, why := span.Prefixes(true, huge); len(got) != 1023+len(parted(api.Prefix{Six: true}, huge[1023:])) || why != api.OK {
		t.Errorf("with a huge one: %d prefixes, error %d", len(got), why)
	}
	var wides []api.Span
	for i := range uint64(1024) {
		wides = append(wides, between(api.Addr{Hi: 2 * i, Lo: 1}, api.Addr{Hi: 2 * i, Lo: most - 1}))
	}
	if got, why := span.Prefixes(true, wides); len(got) != 0 || why != api.ErrLong {
		t.Errorf("of wide ones: %d prefixes, error %d", len(got), why)
	}
}

// 10.4

// held calls all with copies of one's own, and tells whether they are as they were, with the room behind them.
func held(t *testing.T, say string, six bool, l []api.Span, call func([]api.Span) []api.Span) {
	t.Helper()
	mark := between(api.Addr{Hi: 77}, api.Addr{Lo: 77})
	room := append(slices.Clone(l), mark, mark, mark)
	was := slices.Clone(room)
	got := call(room[:len(l)])
	if !slices.Equal(room, was) {
		t.Errorf("%s of %v changes what it was handed", say, l)
	}
	answer := slices.Clone(got)
	clear(got[:cap(got)])
	if !slices.Equal(room, was) {
		t.Errorf("%s of %v shares its answer's memory", say, l)
	}
	if again := call(room[:len(l)]); !slices.Equal(again, answer) {
		t.Errorf("%s of %v: %v, then %v", say, l, answer, again)
	}
	kept := call(room[:len(l)])
	clear(room)
	if !slices.Equal(kept, answer) {
		t.Errorf("%s of %v hangs on what it was handed", say, l)
	}
}

func TestAnswersAreNewMemory(t *testing.T) {
	for _, l := range [][]api.Span{nil, {four(3, 5)}, {four(3, 5), four(8, 9)}, {four(0, 1<<32-1)}, spaced(0, 100)} {
		falling := slices.Clone(l)
		slices.Reverse(falling)
		held(t, "Make, falling,", false, falling, func(l []api.Span) []api.Span { r, _ := span.Make(false, l...); return r })
		held(t, "Make", false, l, func(l []api.Span) []api.Span { r, _ := span.Make(false, l...); return r })
		held(t, "Not", false, l, func(l []api.Span) []api.Span { r, _ := span.Not(false, l); return r })
		for _, other := range [][]api.Span{nil, {four(4, 8)}, {four(0, 1<<32-1)}} {
			held(t, "Or", false, l, func(l []api.Span) []api.Span { r, _ := span.Or(false, l, other); return r })
			held(t, "Or", false, l, func(l []api.Span) []api.Span { r, _ := span.Or(false, other, l); return r })
			held(t, "And", false, l, func(l []api.Span) []api.Span { r, _ := span.And(false, l, other); return r })
			held(t, "And", false, l, func(l []api.Span) []api.Span { r, _ := span.And(false, other, l); return r })
		}
		held(t, "Or of itself", false, l, func(l []api.Span) []api.Span { r, _ := span.Or(false, l, l); return r })
		held(t, "And of itself", false, l, func(l []api.Span) []api.Span { r, _ := span.And(false, l, l); return r })
		held(t, "Prefixes", false, l, func(l []api.Span) []api.Span {
			var some []api.Span
			r, _ := span.Prefixes(false, l)
			for _, p := range r {
				s, _ := span.Of(p)
				some = append(some, s)
			}
			clear(r[:cap(r)])
			return some
		})
	}
}

// P1, P3, P4

func TestNilAndEmptyAreAlike(t *testing.T) {
	none, l := []api.Span{}, []api.Span{four(3, 5)}
	for _, six := range kinds {
		say := func(x ...any) string { return fmt.Sprint(x...) }
		tell := func(nothing []api.Span) string {
			made, w1 := span.Make(six, nothing...)
			is, w2 := span.Has(six, nothing, api.Addr{})
			or, w3 := span.Or(six, nothing, l)
			ro, w4 := span.Or(six, l, nothing)
			and, w5 := span.And(six, nothing, l)
			dna, w6 := span.And(six, l, nothing)
			not, w7 := span.Not(six, nothing)
			some, w8 := span.Prefixes(six, nothing)
			return say(span.Check(six, nothing), made, w1, is, w2, or, w3, ro, w4, and, w5, dna, w6, not, w7, some, w8)
		}
		if tell(nil) != tell(none) {
			t.Errorf("nil: %s, empty: %s", tell(nil), tell(none))
		}
	}
}

// fuzzed makes spans of bytes: right ones and others, near each other.
func fuzzed(six bool, s []byte) []api.Span {
	var l []api.Span
	for len(s) >= 3 {
		hi := []uint64{0, 0, 0, 1, most}[int(s[0])%5]
		base := []uint64{0, 1<<32 - 100, most - 100, 1 << 32}[int(s[0])/5%4]
		if !six && s[0] < 200 {
			hi, base = 0, base%(1<<32)
		}
		from := api.Addr{Hi: hi, Lo: base + uint64(s[1])}
		l = append(l, between(from, api.Addr{Hi: hi, Lo: from.Lo + uint64(int8(s[2]))}))
		s = s[3:]
	}
	return l
}

func FuzzSets(f *testing.F) {
	f.Add(false, []byte{0, 1, 2, 0, 9, 3}, []byte{0, 0, 7}, uint64(0), uint64(5))
	f.Add(true, []byte{15, 99, 2, 3, 0, 3}, []byte{4, 50, 7}, uint64(1), uint64(5))
	f.Fuzz(func(t *testing.T, six bool, s, u []byte, hi, lo uint64) {
		if len(s) > 90 || len(u) > 90 {
			return
		}
		a, b, x := fuzzed(six, s), fuzzed(six, u), api.Addr{Hi: hi, Lo: lo}
		made, why := span.Make(six, a...)
		if slices.ContainsFunc(a, func(s api.Span) bool { return !plainSpan(six, s) }) {
			if len(made) > 0 || why != api.ErrForm {
				t.Errorf("Make(%v): %v, error %d", a, made, why)
			}
		} else if want := row(six, edges(six, a), func(x api.Addr) bool { return plainHas(a, x) }); !slices.Equal(made, want) || why != api.OK {
			t.Errorf("Make(%v): %v, error %d", a, made, why)
		}
		if span.Check(six, a) != plainCheck(six, a) || span.Check(six, b) != plainCheck(six, b) {
			t.Errorf("Check of %v or %v", a, b)
		}
		if n, why := span.Make(six, b...); why == api.OK {
			b = n
		}
		if why == api.OK {
			a = made
		}
		bad := max(plainCheck(six, a), plainCheck(six, b))
		at := edges(six, a, b)
		or, w1 := span.Or(six, a, b)
		and, w2 := span.And(six, a, b)
		if w1 != bad || w2 != bad {
			t.Fatalf("Or, And of %v, %v: errors %d, %d", a, b, w1, w2)
		}
		if is, why := span.Has(six, a, x); plainCheck(six, a) == api.OK && isAddress(six, x) && (is != plainHas(a, x) || why != api.OK) {
			t.Errorf("Has(%v, %x): %t, error %d", a, x, is, why)
		}
		if bad != api.OK {
			return
		}
		if !slices.Equal(or, row(six, at, func(x api.Addr) bool { return plainHas(a, x) || plainHas(b, x) })) {
			t.Errorf("Or(%v, %v): %v", a, b, or)
		}
		if !slices.Equal(and, row(six, at, func(x api.Addr) bool { return plainHas(a, x) && plainHas(b, x) })) {
			t.Errorf("And(%v, %v): %v", a, b, and)
		}
		not, why := span.Not(six, a)
		if !slices.Equal(not, row(six, at, func(x api.Addr) bool { return !plainHas(a, x) })) || why != api.OK {
			t.Errorf("Not(%v): %v, error %d", a, not, why)
		}
		if some, why := span.Prefixes(six, a); why != api.OK || !slices.Equal(some, parted(api.Prefix{Six: six}, a)) {
			t.Errorf("Prefixes(%v): %v, error %d", a, some, why)
		}
	})
}

func TestNoGoroutineIsLeft(t *testing.T) {
	was := runtime.NumGoroutine()
	l := spaced(0, 500)
	for _, six := range kinds {
		span.Make(six, l...)
		span.Has(six, l, api.Addr{})
		span.Or(six, l, l)
		span.And(six, l, l)
		span.Not(six, l)
		span.Prefixes(six, l)
	}
	if is := runtime.NumGoroutine(); is > was {
		t.Errorf("%d goroutines, then %d", was, is)
	}
}
