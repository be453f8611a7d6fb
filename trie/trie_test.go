package trie_test

import (
	"cmp"
	"encoding/binary"
	"maps"
	"math"
	"math/rand"
	"net/netip"
	"runtime"
	"slices"
	"testing"

	"spoor/api"
	"spoor/trie"
)

// The calls have the signatures of doc/15-trie.md.
var (
	_ func([]api.Route) api.Errno                              = trie.Check
	_ func([]api.Route, api.Route) ([]api.Route, api.Errno)    = trie.Put
	_ func([]api.Route, api.Prefix) ([]api.Route, api.Errno)   = trie.Del
	_ func([]api.Route, api.Prefix) (api.Route, api.Errno)     = trie.Find
	_ func([]api.Route, bool, api.Addr) (api.Route, api.Errno) = trie.Longest
	_ func([]api.Route, bool) ([]api.Addr, api.Errno)          = trie.Cuts
	_ func([]api.Route) ([]api.Route, api.Errno)               = trie.Slim
)

// What follows is plain, by the document's words, and by Go's library.

// plainAddr is an address as the library has it, if it is right.
func plainAddr(six bool, a api.Addr) (netip.Addr, bool) {
	var b [16]byte
	binary.BigEndian.PutUint64(b[:8], a.Hi)
	binary.BigEndian.PutUint64(b[8:], a.Lo)
	if six {
		return netip.AddrFrom16(b), true
	}
	return netip.AddrFrom4([4]byte(b[12:])), a.Hi == 0 && a.Lo <= math.MaxUint32
}

// address is that of the library's.
func address(n netip.Addr) api.Addr {
	if n.Is4() {
		b := n.As4()
		return api.Addr{Lo: uint64(binary.BigEndian.Uint32(b[:]))}
	}
	b := n.As16()
	return api.Addr{Hi: binary.BigEndian.Uint64(b[:8]), Lo: binary.BigEndian.Uint64(b[8:])}
}

// plainPrefix is a prefix as the library has it, if it is right.
func plainPrefix(p api.Prefix) (netip.Prefix, bool) {
	a, is := plainAddr(p.Six, p.Addr)
	if !is || p.Len < 0 || p.Len > a.BitLen() {
		return netip.Prefix{}, false
	}
	n := netip.PrefixFrom(a, p.Len)
	return n, n == n.Masked()
}

func plainAction(a api.Action) bool {
	switch a.Kind {
	case api.ActionForward:
		return a.Iface >= 0 && a.Iface <= 1<<16
	case api.ActionDeliver, api.ActionDiscard:
		return a.Iface == 0
	}
	return false
}

func plainRight(r api.Route) bool {
	_, is := plainPrefix(r.Prefix)
	return is && plainAction(r.Action)
}

// plainOrder is that of right prefixes: the library, too, has addresses of IPv4 first.
func plainOrder(p, q api.Prefix) int {
	a, _ := plainPrefix(p)
	b, _ := plainPrefix(q)
	return cmp.Or(a.Addr().Compare(b.Addr()), cmp.Compare(a.Bits(), b.Bits()))
}

func plainCheck(l []api.Route) api.Errno {
	for i, r := range l {
		if !plainRight(r) || i > 0 && plainOrder(l[i-1].Prefix, r.Prefix) >= 0 {
			return api.ErrForm
		}
	}
	if len(l) > 256 {
		return api.ErrForm
	}
	return api.OK
}

func plainHas(p api.Prefix, six bool, a api.Addr) bool {
	n, _ := plainPrefix(p)
	b, _ := plainAddr(six, a)
	return n.Contains(b)
}

func byPrefix(a, b api.Route) int { return plainOrder(a.Prefix, b.Prefix) }

// noted are right routes by their prefixes.
func noted(l []api.Route) map[api.Prefix]api.Route {
	m := map[api.Prefix]api.Route{}
	for _, r := range l {
		m[r.Prefix] = r
	}
	return m
}

func sorted(m map[api.Prefix]api.Route) []api.Route {
	return slices.SortedFunc(maps.Values(m), byPrefix)
}

func plainPut(l []api.Route, r api.Route) ([]api.Route, api.Errno) {
	m := noted(l)
	m[r.Prefix] = r
	if len(m) > 256 {
		return l, api.ErrFull
	}
	return sorted(m), api.OK
}

func plainDel(l []api.Route, p api.Prefix) ([]api.Route, api.Errno) {
	m := noted(l)
	if _, is := m[p]; !is {
		return l, api.ErrNone
	}
	delete(m, p)
	return sorted(m), api.OK
}

func plainFind(l []api.Route, p api.Prefix) (api.Route, api.Errno) {
	r, is := noted(l)[p]
	if !is {
		return api.Route{}, api.ErrNone
	}
	return r, api.OK
}

func plainLongest(l []api.Route, six bool, a api.Addr) (api.Route, api.Errno) {
	found, why := api.Route{}, api.ErrNone
	for _, r := range l {
		if plainHas(r.Prefix, six, a) && (why != api.OK || r.Prefix.Len > found.Prefix.Len) {
			found, why = r, api.OK
		}
	}
	return found, why
}

// plainLast is a right prefix's last address: all bits behind its Len are set.
func plainLast(p api.Prefix) netip.Addr {
	n, _ := plainPrefix(p)
	b := n.Addr().AsSlice()
	for i := n.Bits(); i < len(b)*8; i++ {
		b[i/8] |= 0x80 >> (i % 8)
	}
	last, _ := netip.AddrFromSlice(b)
	return last
}

func plainCuts(l []api.Route, six bool) []api.Addr {
	zero, _ := plainAddr(six, api.Addr{})
	all := map[netip.Addr]int{zero: 1}
	for _, r := range l {
		if r.Prefix.Six != six {
			continue
		}
		n, _ := plainPrefix(r.Prefix)
		all[n.Addr()]++
		if next := plainLast(r.Prefix).Next(); next.IsValid() {
			all[next]++
		}
	}
	var cuts []api.Addr
	for _, n := range slices.SortedFunc(maps.Keys(all), netip.Addr.Compare) {
		cuts = append(cuts, address(n))
	}
	return cuts
}

// plainUpper is the upper route of one, if there is one.
func plainUpper(l []api.Route, p api.Prefix) (api.Route, bool) {
	var upper api.Route
	is := false
	for _, r := range l {
		if r.Prefix != p && r.Prefix.Len <= p.Len && plainHas(r.Prefix, p.Six, p.Addr) && (!is || r.Prefix.Len > upper.Prefix.Len) {
			upper, is = r, true
		}
	}
	return upper, is
}

func plainSlim(l []api.Route) []api.Route {
	var some []api.Route
	for _, r := range l {
		if upper, is := plainUpper(l, r.Prefix); !is || upper.Action != r.Action {
			some = append(some, r)
		}
	}
	return some
}

// Samples.

// The three kinds of actions.
var (
	deliver = api.Action{Kind: api.ActionDeliver}
	discard = api.Action{Kind: api.ActionDiscard}
	forward = api.Action{Kind: api.ActionForward, Iface: 3}
)

// read is the prefix of a text, by the library.
func read(s string) api.Prefix {
	n := netip.MustParsePrefix(s)
	return api.Prefix{Six: n.Addr().Is6(), Addr: address(n.Addr()), Len: n.Bits()}
}

// route is one of a text.
func route(s string, a api.Action) api.Route {
	return api.Route{Prefix: read(s), Action: a}
}

// at is the address of a text, and whether it is of IPv6.
func at(s string) (bool, api.Addr) {
	n := netip.MustParseAddr(s)
	return n.Is6(), address(n)
}

// chain is all prefixes of an address, one in another one, by turns of the actions.
func chain(s string, actions ...api.Action) []api.Route {
	a := netip.MustParseAddr(s)
	m := map[api.Prefix]api.Route{}
	for i := range a.BitLen() + 1 {
		n, _ := a.Prefix(i)
		p := api.Prefix{Six: a.Is6(), Addr: address(n.Addr()), Len: i}
		m[p] = api.Route{Prefix: p, Action: actions[i%len(actions)]}
	}
	return sorted(m)
}

// full are as many right routes as there may be, of both kinds, some in others.
func full() []api.Route {
	m := noted(slices.Concat(chain("10.0.0.7", deliver, forward), chain("ffff::ff", discard)))
	for i := uint64(0); len(m) < api.MaxRoutes; i++ {
		p := api.Prefix{Addr: api.Addr{Lo: 192<<24 + i<<9}, Len: 24 + int(i%3)}
		m[p] = api.Route{Prefix: p, Action: api.Action{Kind: api.ActionForward, Iface: int(i % 4)}}
	}
	return sorted(m)
}

// rights are right routes.
func rights() [][]api.Route {
	return [][]api.Route{
		nil,
		{},
		{route("0.0.0.0/0", deliver)},
		{route("::/0", discard)},
		{route("0.0.0.0/0", deliver), route("::/0", discard)},
		{route("0.0.0.0/32", deliver), route("255.255.255.255/32", deliver), route("::/128", discard), route("ffff:ffff:ffff:ffff:ffff:ffff:ffff:ffff/128", deliver)},
		{route("0.0.0.0/1", deliver), route("128.0.0.0/1", deliver), route("::/1", forward), route("8000::/1", discard)},
		{route("10.0.0.0/8", deliver), route("10.128.0.0/9", forward)},
		{route("10.0.0.0/8", deliver), route("10.0.0.0/16", deliver), route("10.0.0.0/24", forward), route("10.0.1.0/24", deliver), route("11.0.0.0/8", deliver)},
		{route("1.2.3.4/32", deliver), route("::1.2.3.4/128", forward), route("::ffff:1.2.3.4/128", discard)},
		{route("1:2:3::/63", deliver), route("1:2:3::/64", deliver), route("1:2:3::/65", forward), route("1:2:3:0:ffff::/80", forward), route("1:2:3:1::/64", discard), route("1:2:3:1:8000::/65", deliver)},
		{route("0:0:0:0:ffff:ffff:ffff:ffff/128", deliver), route("0:0:0:1::/64", forward)},
		chain("0.0.0.0", deliver),
		chain("255.255.255.255", deliver, forward),
		chain("10.170.85.1", deliver, deliver, forward),
		chain("::", discard, discard, discard, forward),
		chain("ffff:ffff:ffff:ffff:ffff:ffff:ffff:ffff", deliver),
		chain("aaaa:5555:aaaa:5555:aaaa:5555:aaaa:5555", deliver, forward),
		{{Prefix: read("0.0.0.0/0"), Action: api.Action{Kind: api.ActionForward}}, {Prefix: read("::/0"), Action: api.Action{Kind: api.ActionForward, Iface: api.MaxIface}}},
		full(),
		full()[1:],
		full()[:api.MaxRoutes-1],
	}
}

// wrongPrefixes are near right ones.
func wrongPrefixes() []api.Prefix {
	return []api.Prefix{
		{Len: -1}, {Len: math.MinInt}, {Len: 33}, {Len: math.MaxInt}, {Six: true, Len: -1}, {Six: true, Len: 129}, {Six: true, Len: math.MaxInt},
		{Addr: api.Addr{Lo: 1}, Len: 31}, {Addr: api.Addr{Lo: 1}}, {Addr: api.Addr{Lo: 10 << 24}, Len: 6},
		{Addr: api.Addr{Lo: 1 << 32}, Len: 32}, {Addr: api.Addr{Hi: 1}, Len: 32}, {Addr: api.Addr{Hi: math.MaxUint64, Lo: math.MaxUint64}, Len: 32},
		{Six: true, Addr: api.Addr{Lo: 1}, Len: 127}, {Six: true, Addr: api.Addr{Lo: 1 << 63}, Len: 64}, {Six: true, Addr: api.Addr{Hi: 1}, Len: 63}, {Six: true, Addr: api.Addr{Hi: 1}},
	}
}

// wrongActions are near right ones.
func wrongActions() []api.Action {
	return []api.Action{
		{}, {Iface: 1}, {Kind: api.ActionCount}, {Kind: 255}, {Kind: api.ActionDeliver, Iface: 1}, {Kind: api.ActionDiscard, Iface: 3}, {Kind: api.ActionDeliver, Iface: -1},
		{Kind: api.ActionForward, Iface: -1}, {Kind: api.ActionForward, Iface: api.MaxIface + 1}, {Kind: api.ActionForward, Iface: math.MinInt}, {Kind: api.ActionForward, Iface: math.MaxInt},
	}
}

// wrongRoutes have a prefix or an action that is not right.
func wrongRoutes() []api.Route {
	var l []api.Route
	for _, p := range wrongPrefixes() {
		l = append(l, api.Route{Prefix: p, Action: deliver})
	}
	for _, a := range wrongActions() {
		l = append(l, route("10.0.0.0/8", a), route("10::/16", a))
	}
	return append(l, api.Route{}, api.Route{Prefix: api.Prefix{Len: 40}})
}

// wrongs are routes that are not right.
func wrongs() [][]api.Route {
	one, two, six := route("10.0.0.0/8", deliver), route("11.0.0.0/8", forward), route("::/0", discard)
	l := [][]api.Route{
		{one, one},
		{one, route("10.0.0.0/8", forward)},
		{two, one},
		{route("10.0.0.0/9", deliver), one},
		{six, one},
		{one, six, two},
		{six, six},
		{one, two, two},
		{one, two, six, route("::/0", deliver)},
		{route("::/128", deliver), six},
		{route("1::/64", deliver), route("::1:0:0:0:0/80", deliver)}, // the halves in their order
		{route("0:0:0:0:2::/80", deliver), route("0:0:0:0:1::/80", deliver)},
		append(full(), route("ffff:ffff:ffff:ffff:ffff:ffff:ffff:ffff/128", deliver)),
		make([]api.Route, 1000),
	}
	for _, r := range wrongRoutes() {
		l = append(l, []api.Route{r}, []api.Route{route("0.0.0.0/0", deliver), r}, []api.Route{r, route("ffff::/16", deliver)}, []api.Route{one, r, six})
	}
	return l
}

// wrongAddrs are no addresses of IPv4.
var wrongAddrs = []api.Addr{{Lo: 1 << 32}, {Lo: math.MaxUint64}, {Hi: 1}, {Hi: math.MaxUint64, Lo: math.MaxUint64}}

// prefixesOf are those of routes, their neighbours', and some others.
func prefixesOf(l []api.Route) []api.Prefix {
	some := []api.Prefix{
		read("0.0.0.0/0"), read("::/0"), read("0.0.0.0/32"), read("::/128"), read("10.0.0.0/8"), read("10.0.0.0/7"), read("10.0.0.0/9"),
		read("255.255.255.255/32"), read("ffff:ffff:ffff:ffff:ffff:ffff:ffff:ffff/128"), read("1:2:3::/64"), read("a00::/8"),
	}
	for _, r := range l {
		n, _ := plainPrefix(r.Prefix)
		some = append(some, r.Prefix)
		if up, err := n.Addr().Prefix(n.Bits() - 1); err == nil {
			some = append(some, read(up.String()))
		}
		if under := netip.PrefixFrom(n.Addr(), n.Bits()+1); under.IsValid() {
			some = append(some, read(under.String()))
		}
	}
	return some
}

// addressesOf are those at the edges of routes' prefixes of a kind, and of all addresses.
func addressesOf(l []api.Route, six bool) []api.Addr {
	low, _ := plainAddr(six, api.Addr{})
	high := plainLast(api.Prefix{Six: six})
	some := []netip.Addr{low, low.Next(), high, high.Prev()}
	for _, r := range l {
		if r.Prefix.Six == six {
			n, _ := plainPrefix(r.Prefix)
			last := plainLast(r.Prefix)
			some = append(some, n.Addr().Prev(), n.Addr(), n.Addr().Next(), last.Prev(), last, last.Next())
		}
	}
	var all []api.Addr
	for _, n := range some {
		if n.IsValid() {
			all = append(all, address(n))
		}
	}
	return all
}

// Both kinds of addresses.
var kinds = []bool{false, true}

// changesAsPlain holds Put, Del and Find of right routes and a right one against the plain forms.
func changesAsPlain(t *testing.T, l []api.Route, r api.Route) {
	t.Helper()
	want, no := plainPut(l, r)
	if m, why := trie.Put(l, r); !slices.Equal(m, want) || why != no {
		t.Fatalf("Put(%v, %v): %v, error %d, not %v, %d", l, r, m, why, want, no)
	}
	want, no = plainDel(l, r.Prefix)
	if m, why := trie.Del(l, r.Prefix); !slices.Equal(m, want) || why != no {
		t.Fatalf("Del(%v, %v): %v, error %d, not %v, %d", l, r.Prefix, m, why, want, no)
	}
	one, no := plainFind(l, r.Prefix)
	if found, why := trie.Find(l, r.Prefix); found != one || why != no {
		t.Fatalf("Find(%v, %v): %v, error %d, not %v, %d", l, r.Prefix, found, why, one, no)
	}
}

func longestAsPlain(t *testing.T, l []api.Route, six bool, a api.Addr) {
	t.Helper()
	want, no := plainLongest(l, six, a)
	if r, why := trie.Longest(l, six, a); r != want || why != no {
		t.Fatalf("Longest(%v, %t, %v): %v, error %d, not %v, %d", l, six, a, r, why, want, no)
	}
}

// wholeAsPlain holds Cuts and Slim of right routes against the plain forms.
func wholeAsPlain(t *testing.T, l []api.Route) {
	t.Helper()
	for _, six := range kinds {
		want := plainCuts(l, six)
		if cuts, why := trie.Cuts(l, six); !slices.Equal(cuts, want) || why != api.OK {
			t.Fatalf("Cuts(%v, %t): %v, error %d, not %v", l, six, cuts, why, want)
		}
	}
	want := plainSlim(l)
	if m, why := trie.Slim(l); !slices.Equal(m, want) || why != api.OK {
		t.Fatalf("Slim(%v): %v, error %d, not %v", l, m, why, want)
	}
}

// small are the prefixes of four neighbours at some place, all seven.
func small(s string) []api.Prefix {
	n := netip.MustParsePrefix(s)
	l := []api.Prefix{read(s)}
	for i := range 2 {
		for _, p := range slices.Clone(l[len(l)-1-i:]) {
			a, _ := plainPrefix(p)
			low := netip.PrefixFrom(a.Addr(), a.Bits()+1)
			high, _ := plainLast(p).Prefix(a.Bits() + 1)
			l = append(l, read(low.String()), read(high.String()))
		}
	}
	if l[len(l)-1].Len != n.Bits()+2 || len(l) != 7 {
		panic(s)
	}
	return l
}

// eachOfSeven tells all right routes of seven prefixes, each of which is not there, or one of two actions.
func eachOfSeven(s string, tell func([]api.Route)) {
	seven := small(s)
	slices.SortFunc(seven, plainOrder)
	for set := range 3 * 3 * 3 * 3 * 3 * 3 * 3 {
		var l []api.Route
		for i, n := 0, set; n > 0; i, n = i+1, n/3 {
			if n%3 > 0 {
				l = append(l, api.Route{Prefix: seven[i], Action: []api.Action{deliver, forward}[n%3-1]})
			}
		}
		tell(l)
	}
}

// smallPlaces are where prefixes of four neighbours are looked at: at both ends, where there is no address behind, and where the halves meet.
var smallPlaces = []string{
	"0.0.0.0/30", "255.255.255.252/30", "0.0.0.0/0", "10.0.0.0/8", "::/126", "ffff:ffff:ffff:ffff:ffff:ffff:ffff:fffc/126", "::/0",
	"1:2:3::/62", "1:2:3::/63", "1:2:3::/64", "1:2:3:ffff:ffff:ffff:ffff:fffc/126",
}

// somePrefix is a right prefix by chance, of few first bits, so that many cover others.
func somePrefix(r *rand.Rand) api.Prefix {
	if r.Intn(2) == 0 {
		long := r.Intn(33)
		n, _ := netip.AddrFrom4([4]byte{byte(r.Intn(3)), byte(r.Intn(2)) * 255, byte(r.Intn(2)) * 170, byte(r.Intn(4))}).Prefix(long)
		return read(n.String())
	}
	var b [16]byte
	for i := range b {
		b[i] = byte(r.Intn(2)) * byte(r.Intn(2)) * 0xa5
	}
	n, _ := netip.AddrFrom16(b).Prefix(r.Intn(129))
	return read(n.String())
}

func someRoute(r *rand.Rand) api.Route {
	return api.Route{Prefix: somePrefix(r), Action: []api.Action{deliver, discard, forward}[r.Intn(3)]}
}

// someRoutes are up to that many right routes by chance.
func someRoutes(r *rand.Rand, many int) []api.Route {
	m := map[api.Prefix]api.Route{}
	for range many {
		one := someRoute(r)
		m[one.Prefix] = one
	}
	return sorted(m)
}

// 15.1

func TestCheckTakesWhatIsRight(t *testing.T) {
	for _, l := range rights() {
		if plainCheck(l) != api.OK {
			t.Fatalf("the sample %v is wrong", l)
		}
		if why := trie.Check(l); why != api.OK {
			t.Errorf("Check(%v): error %d", l, why)
		}
	}
}

func TestCheckRefusesWhatIsNotRight(t *testing.T) {
	for _, l := range wrongs() {
		if plainCheck(l) != api.ErrForm {
			t.Fatalf("the sample %v is right", l)
		}
		if why := trie.Check(l); why != api.ErrForm {
			t.Errorf("Check(%v): error %d", l, why)
		}
	}
	for i := range api.MaxRoutes {
		l := full()
		l[i].Action = api.Action{}
		if why := trie.Check(l); why != api.ErrForm {
			t.Errorf("Check with a wrong route at %d: error %d", i, why)
		}
		if i == 0 {
			continue
		}
		l = full()
		l[i].Prefix = l[i-1].Prefix
		if why := trie.Check(l); why != api.ErrForm {
			t.Errorf("Check with a prefix that is twice, at %d: error %d", i, why)
		}
		l = full()
		l[i], l[i-1] = l[i-1], l[i]
		if why := trie.Check(l); why != api.ErrForm {
			t.Errorf("Check with neighbours turned, at %d: error %d", i, why)
		}
	}
}

// Prefixes stand by their kind, their address, and their length, whichever two they are.
func TestPrefixesOrder(t *testing.T) {
	r := rand.New(rand.NewSource(151))
	some := prefixesOf(full())
	for range 400 {
		some = append(some, somePrefix(r))
	}
	for _, p := range some {
		for _, q := range some {
			l := []api.Route{{Prefix: p, Action: deliver}, {Prefix: q, Action: deliver}}
			if why := trie.Check(l); why != plainCheck(l) {
				t.Fatalf("Check(%v): error %d", l, why)
			}
		}
	}
}

// refused asks each call for an error, and for zeros beside it.
func refused(t *testing.T, l []api.Route, r api.Route, six bool, a api.Addr) {
	t.Helper()
	if m, why := trie.Put(l, r); len(m) != 0 || why != api.ErrForm {
		t.Errorf("Put(%v, %v): %v, error %d", l, r, m, why)
	}
	if m, why := trie.Del(l, r.Prefix); len(m) != 0 || why != api.ErrForm {
		t.Errorf("Del(%v, %v): %v, error %d", l, r.Prefix, m, why)
	}
	if one, why := trie.Find(l, r.Prefix); one != (api.Route{}) || why != api.ErrForm {
		t.Errorf("Find(%v, %v): %v, error %d", l, r.Prefix, one, why)
	}
	if one, why := trie.Longest(l, six, a); one != (api.Route{}) || why != api.ErrForm {
		t.Errorf("Longest(%v, %t, %v): %v, error %d", l, six, a, one, why)
	}
}

func TestRoutesThatAreNotRightAreRefused(t *testing.T) {
	for _, l := range wrongs() {
		for _, six := range kinds {
			for _, r := range []api.Route{route("10.0.0.0/8", deliver), route("11.0.0.0/8", forward), route("::/0", discard), {}, {Prefix: api.Prefix{Len: 33}}} {
				refused(t, l, r, six, api.Addr{Lo: 10 << 24})
			}
			refused(t, l, route("10.0.0.0/8", deliver), six, api.Addr{Hi: 1})
			if cuts, why := trie.Cuts(l, six); len(cuts) != 0 || why != api.ErrForm {
				t.Errorf("Cuts(%v, %t): %v, error %d", l, six, cuts, why)
			}
		}
		if m, why := trie.Slim(l); len(m) != 0 || why != api.ErrForm {
			t.Errorf("Slim(%v): %v, error %d", l, m, why)
		}
	}
}

// That is so of full routes, too, and where the prefix is there.
func TestWhatIsNotRightIsAheadOfAllElse(t *testing.T) {
	for _, l := range rights() {
		for _, p := range wrongPrefixes() {
			refused(t, l, api.Route{Prefix: p, Action: deliver}, false, wrongAddrs[0])
		}
		for _, r := range wrongRoutes() {
			if m, why := trie.Put(l, r); len(m) != 0 || why != api.ErrForm {
				t.Errorf("Put(%v, %v): %v, error %d", l, r, m, why)
			}
		}
		for _, a := range wrongAddrs {
			if r, why := trie.Longest(l, false, a); r != (api.Route{}) || why != api.ErrForm {
				t.Errorf("Longest(%v, false, %v): %v, error %d", l, a, r, why)
			}
			longestAsPlain(t, l, true, a) // of IPv6 each is right
		}
	}
}

func TestPutDelAndFindByTheWords(t *testing.T) {
	for _, l := range rights() {
		for _, p := range prefixesOf(l) {
			changesAsPlain(t, l, api.Route{Prefix: p, Action: discard})
		}
	}
	r := rand.New(rand.NewSource(15))
	for range 3000 {
		l := someRoutes(r, r.Intn(40))
		changesAsPlain(t, l, someRoute(r))
		if len(l) > 0 {
			changesAsPlain(t, l, api.Route{Prefix: l[r.Intn(len(l))].Prefix, Action: discard})
		}
	}
}

func TestPutInItsPlace(t *testing.T) {
	l := []api.Route{route("10.0.0.0/8", deliver), route("12.0.0.0/8", deliver), route("10::/16", deliver)}
	for _, c := range []struct {
		r    api.Route
		want []api.Route
	}{
		{route("10.0.0.0/8", forward), []api.Route{route("10.0.0.0/8", forward), l[1], l[2]}},
		{route("10::/16", discard), []api.Route{l[0], l[1], route("10::/16", discard)}},
		{route("10.0.0.0/7", discard), []api.Route{route("10.0.0.0/7", discard), l[0], l[1], l[2]}},
		{route("10.0.0.0/9", discard), []api.Route{l[0], route("10.0.0.0/9", discard), l[1], l[2]}},
		{route("255.0.0.0/8", discard), []api.Route{l[0], l[1], route("255.0.0.0/8", discard), l[2]}},
		{route("::/0", discard), []api.Route{l[0], l[1], route("::/0", discard), l[2]}},
		{route("10::/17", discard), []api.Route{l[0], l[1], l[2], route("10::/17", discard)}},
	} {
		if m, why := trie.Put(l, c.r); !slices.Equal(m, c.want) || why != api.OK {
			t.Errorf("Put(%v): %v, error %d, not %v", c.r, m, why, c.want)
		}
	}
}

// MaxRoutes are taken, and no one more; one that is there is changed all the same.
func TestRoutesUpToTheLimit(t *testing.T) {
	var l []api.Route
	for i := range api.MaxRoutes {
		one := api.Route{Prefix: api.Prefix{Addr: api.Addr{Lo: uint64(i*i*7) % 1024 << 20}, Len: 12 + i%20}, Action: deliver}
		if i%2 == 1 {
			one.Prefix = api.Prefix{Six: true, Addr: api.Addr{Hi: uint64(api.MaxRoutes - i)}, Len: 64 + i%64}
		}
		if _, why := trie.Find(l, one.Prefix); why == api.OK {
			one.Prefix = api.Prefix{Addr: api.Addr{Lo: uint64(i)}, Len: 32}
		}
		m, why := trie.Put(l, one)
		if why != api.OK || len(m) != i+1 || trie.Check(m) != api.OK {
			t.Fatalf("route %d: %d routes, error %d", i, len(m), why)
		}
		l = m
	}
	for _, r := range []api.Route{route("1.2.3.0/24", deliver), route("255.255.255.255/32", deliver), route("ffff::/16", deliver), route("::/0", discard)} {
		if m, why := trie.Put(l, r); !slices.Equal(m, l) || why != api.ErrFull {
			t.Errorf("one route more: %d routes, error %d", len(m), why)
		}
	}
	for i, was := range l {
		m, why := trie.Put(l, api.Route{Prefix: was.Prefix, Action: discard})
		if len(m) != api.MaxRoutes || why != api.OK || m[i].Action != discard {
			t.Errorf("a route that is there: %d routes, error %d", len(m), why)
		}
		less, why := trie.Del(l, was.Prefix)
		if len(less) != api.MaxRoutes-1 || why != api.OK {
			t.Errorf("a route that is there: %d routes without it, error %d", len(less), why)
		}
		if m, why := trie.Put(less, was); !slices.Equal(m, l) || why != api.OK {
			t.Errorf("and again: %d routes, error %d", len(m), why)
		}
	}
}

// 15.2

func TestExample(t *testing.T) {
	l := []api.Route{route("10.0.0.0/8", deliver), route("10.128.0.0/9", forward)}
	six, a := at("10.200.0.1")
	if r, why := trie.Longest(l, six, a); r != l[1] || why != api.OK {
		t.Errorf("10.200.0.1: %v, error %d", r, why)
	}
	var want []api.Addr
	for _, s := range []string{"0.0.0.0", "10.0.0.0", "10.128.0.0", "11.0.0.0"} {
		_, a := at(s)
		want = append(want, a)
	}
	if cuts, why := trie.Cuts(l, false); !slices.Equal(cuts, want) || why != api.OK {
		t.Errorf("cuts: %v, error %d", cuts, why)
	}
	if cuts, why := trie.Cuts(l, true); !slices.Equal(cuts, []api.Addr{{}}) || why != api.OK {
		t.Errorf("cuts of IPv6: %v, error %d", cuts, why)
	}
}

func TestLongestByCases(t *testing.T) {
	l := []api.Route{
		route("10.0.0.0/8", deliver), route("10.1.0.0/16", forward), route("10.1.2.0/24", discard), route("10.1.2.3/32", deliver),
		route("10::/16", deliver), route("10:0:0:1::/64", forward), route("10:0:0:1:8000::/65", discard),
	}
	for _, c := range []struct {
		addr string
		want int
	}{
		{"9.255.255.255", -1}, {"10.0.0.0", 0}, {"10.0.255.255", 0}, {"10.1.0.0", 1}, {"10.1.1.255", 1}, {"10.1.2.0", 2}, {"10.1.2.2", 2},
		{"10.1.2.3", 3}, {"10.1.2.4", 2}, {"10.1.3.0", 1}, {"10.2.0.0", 0}, {"10.255.255.255", 0}, {"11.0.0.0", -1}, {"0.0.0.0", -1}, {"255.255.255.255", -1},
		{"::", -1}, {"f:ffff:ffff:ffff:ffff:ffff:ffff:ffff", -1}, {"10::", 4}, {"10:0:0:0:ffff:ffff:ffff:ffff", 4}, {"10:0:0:1::", 5},
		{"10:0:0:1:7fff:ffff:ffff:ffff", 5}, {"10:0:0:1:8000::", 6}, {"10:0:0:1:ffff:ffff:ffff:ffff", 6}, {"10:0:0:2::", 4}, {"11::", -1}, {"::10.1.2.3", -1},
	} {
		want, no := api.Route{}, api.ErrNone
		if c.want >= 0 {
			want, no = l[c.want], api.OK
		}
		six, a := at(c.addr)
		if r, why := trie.Longest(l, six, a); r != want || why != no {
			t.Errorf("%s: %v, error %d, not %v, %d", c.addr, r, why, want, no)
		}
	}
}

// An address of one kind has no route of the other one, though its number is in it.
func TestKindsStandApart(t *testing.T) {
	four, six := route("0.0.0.0/0", deliver), route("::/0", forward)
	for _, a := range []api.Addr{{}, {Lo: 10 << 24}, {Lo: math.MaxUint32}} {
		for _, c := range []struct {
			l    []api.Route
			six  bool
			want api.Route
			why  api.Errno
		}{
			{nil, false, api.Route{}, api.ErrNone}, {nil, true, api.Route{}, api.ErrNone},
			{[]api.Route{four}, false, four, api.OK}, {[]api.Route{four}, true, api.Route{}, api.ErrNone},
			{[]api.Route{six}, false, api.Route{}, api.ErrNone}, {[]api.Route{six}, true, six, api.OK},
			{[]api.Route{four, six}, false, four, api.OK}, {[]api.Route{four, six}, true, six, api.OK},
		} {
			if r, why := trie.Longest(c.l, c.six, a); r != c.want || why != c.why {
				t.Errorf("Longest(%v, %t, %v): %v, error %d, not %v, %d", c.l, c.six, a, r, why, c.want, c.why)
			}
		}
	}
}

func TestCutsByCases(t *testing.T) {
	for _, c := range []struct {
		routes []string
		six    bool
		cuts   []string
	}{
		{nil, false, []string{"0.0.0.0"}},
		{nil, true, []string{"::"}},
		{[]string{"0.0.0.0/0"}, false, []string{"0.0.0.0"}},
		{[]string{"::/0"}, true, []string{"::"}},
		{[]string{"0.0.0.0/0", "::/0"}, false, []string{"0.0.0.0"}},
		{[]string{"0.0.0.0/32"}, false, []string{"0.0.0.0", "0.0.0.1"}},
		{[]string{"255.255.255.255/32"}, false, []string{"0.0.0.0", "255.255.255.255"}},
		{[]string{"10.0.0.0/8", "11.0.0.0/8"}, false, []string{"0.0.0.0", "10.0.0.0", "11.0.0.0", "12.0.0.0"}},
		{[]string{"10.0.0.0/8", "10.0.0.0/9", "10.0.0.0/10"}, false, []string{"0.0.0.0", "10.0.0.0", "10.64.0.0", "10.128.0.0", "11.0.0.0"}},
		{[]string{"10.0.0.0/8", "10.128.0.0/9", "::/1"}, true, []string{"::", "8000::"}},
		{[]string{"::/64", "0:0:0:1::/64"}, true, []string{"::", "0:0:0:1::", "0:0:0:2::"}},
		{[]string{"ffff::/16"}, true, []string{"::", "ffff::"}},
		{[]string{"0:0:0:0:ffff:ffff:ffff:ffff/128"}, true, []string{"::", "0:0:0:0:ffff:ffff:ffff:ffff", "0:0:0:1::"}},
	} {
		var l []api.Route
		for _, s := range c.routes {
			l = append(l, route(s, deliver))
		}
		var want []api.Addr
		for _, s := range c.cuts {
			_, a := at(s)
			want = append(want, a)
		}
		if cuts, why := trie.Cuts(l, c.six); !slices.Equal(cuts, want) || why != api.OK {
			t.Errorf("Cuts(%v, %t): %v, error %d, not %v", c.routes, c.six, cuts, why, c.cuts)
		}
	}
}

// 15.2a

func TestSlimByCases(t *testing.T) {
	one, wide := route("10.0.0.0/8", deliver), route("0.0.0.0/0", deliver)
	for _, c := range []struct{ l, want []api.Route }{
		{nil, nil},
		{[]api.Route{one}, []api.Route{one}},
		{[]api.Route{wide, one}, []api.Route{wide}},
		{[]api.Route{route("0.0.0.0/0", forward), one}, []api.Route{route("0.0.0.0/0", forward), one}},
		{[]api.Route{route("0.0.0.0/0", forward), route("10.0.0.0/8", api.Action{Kind: api.ActionForward, Iface: 4})}, []api.Route{route("0.0.0.0/0", forward), route("10.0.0.0/8", api.Action{Kind: api.ActionForward, Iface: 4})}},
		{[]api.Route{one, route("10.0.0.0/16", deliver), route("10.0.0.0/24", deliver)}, []api.Route{one}},
		// What the upper one does is asked of the next upper one alone: it may be of another action than those above it.
		{[]api.Route{one, route("10.0.0.0/16", forward), route("10.0.0.0/24", deliver)}, []api.Route{one, route("10.0.0.0/16", forward), route("10.0.0.0/24", deliver)}},
		{[]api.Route{one, route("10.0.0.0/16", forward), route("10.1.0.0/16", deliver)}, []api.Route{one, route("10.0.0.0/16", forward)}},
		{[]api.Route{one, route("11.0.0.0/8", deliver)}, []api.Route{one, route("11.0.0.0/8", deliver)}},
		{[]api.Route{wide, route("::/0", deliver), route("::/128", deliver)}, []api.Route{wide, route("::/0", deliver)}},
		{[]api.Route{wide, route("::/1", deliver)}, []api.Route{wide, route("::/1", deliver)}},
		{chain("0.0.0.0", deliver), []api.Route{wide}},
		{chain("255.255.255.255", deliver, forward), chain("255.255.255.255", deliver, forward)},
	} {
		if m, why := trie.Slim(c.l); !slices.Equal(m, c.want) || why != api.OK {
			t.Errorf("Slim(%v): %v, error %d, not %v", c.l, m, why, c.want)
		}
	}
}

func TestAllOfSevenPrefixes(t *testing.T) {
	for _, s := range smallPlaces {
		eachOfSeven(s, func(l []api.Route) {
			if why := trie.Check(l); why != api.OK {
				t.Fatalf("Check(%v): error %d", l, why)
			}
			wholeAsPlain(t, l)
			for _, p := range small(s) {
				longestAsPlain(t, l, p.Six, p.Addr)
				longestAsPlain(t, l, p.Six, address(plainLast(p)))
				changesAsPlain(t, l, api.Route{Prefix: p, Action: discard})
			}
		})
	}
}

func TestSamplesByTheWords(t *testing.T) {
	for _, l := range rights() {
		wholeAsPlain(t, l)
		for _, six := range kinds {
			for _, a := range addressesOf(l, six) {
				longestAsPlain(t, l, six, a)
			}
		}
	}
}

func TestRoutesByChance(t *testing.T) {
	r := rand.New(rand.NewSource(152))
	for range 1500 {
		l := someRoutes(r, r.Intn(60))
		wholeAsPlain(t, l)
		for _, six := range kinds {
			for range 8 {
				some := addressesOf(l, six)
				longestAsPlain(t, l, six, some[r.Intn(len(some))])
			}
		}
	}
}

// 15.3

// spoil turns all that a list has room for.
func spoil[T any](l []T, to T) {
	for i := range l[:cap(l)] {
		l[:cap(l)][i] = to
	}
}

// roomy is a list with room behind it, which is anyone's.
func roomy(l []api.Route) []api.Route {
	return append(slices.Clone(l), make([]api.Route, 4)...)[:len(l)]
}

// What is answered and what was handed in are turned in turn, and each leaves the other one as it was.
func TestRoutesAreNewMemory(t *testing.T) {
	junk := api.Route{Prefix: api.Prefix{Len: -7}, Action: api.Action{Kind: 77, Iface: -777}}
	for _, plain := range slices.Concat(rights(), wrongs()) {
		for _, s := range []string{"0.0.0.0/0", "10.0.0.0/8", "10.0.0.0/9", "1.2.3.4/32", "::/0", "ffff::ff/128"} {
			for name, call := range map[string]func(l []api.Route) []api.Route{
				"Put":  func(l []api.Route) []api.Route { m, _ := trie.Put(l, route(s, discard)); return m },
				"Del":  func(l []api.Route) []api.Route { m, _ := trie.Del(l, read(s)); return m },
				"Slim": func(l []api.Route) []api.Route { m, _ := trie.Slim(l); return m },
			} {
				l := roomy(plain)
				m, other := call(l), call(l)
				asItWas(t, name, l, plain)
				want := slices.Clone(m)
				spoil(l, junk)
				spoil(other, junk)
				if !slices.Equal(m, want) {
					t.Fatalf("%s of %s shares memory: %v", name, s, m)
				}
			}
		}
	}
}

func asItWas(t *testing.T, name string, l, plain []api.Route) {
	t.Helper()
	if !slices.Equal(l, plain) || !slices.Equal(l[:cap(l)][len(l):], make([]api.Route, cap(l)-len(l))) {
		t.Fatalf("%s turned routes: %v", name, l[:cap(l)])
	}
}

func TestCutsAreNewMemory(t *testing.T) {
	for _, plain := range rights() {
		for _, six := range kinds {
			l := roomy(plain)
			cuts, _ := trie.Cuts(l, six)
			other, _ := trie.Cuts(l, six)
			want := slices.Clone(cuts)
			spoil(other, api.Addr{Hi: 7, Lo: 77})
			if !slices.Equal(cuts, want) {
				t.Fatalf("Cuts share memory: %v", cuts)
			}
			trie.Longest(l, six, api.Addr{})
			trie.Find(l, read("10.0.0.0/8"))
			trie.Check(l)
			asItWas(t, "a call", l, plain)
		}
	}
}

// 15.4

func TestPutIsFound(t *testing.T) {
	r := rand.New(rand.NewSource(154))
	for range 2000 {
		l := someRoutes(r, r.Intn(30))
		one := someRoute(r)
		m, why := trie.Put(l, one)
		if why != api.OK {
			t.Fatalf("Put(%v, %v): error %d", l, one, why)
		}
		if found, why := trie.Find(m, one.Prefix); found != one || why != api.OK {
			t.Fatalf("Find behind Put(%v, %v): %v, error %d", l, one, found, why)
		}
		less, why := trie.Del(m, one.Prefix)
		if _, no := trie.Find(less, one.Prefix); why != api.OK || no != api.ErrNone {
			t.Fatalf("Del behind Put(%v, %v): errors %d, %d", l, one, why, no)
		}
		for _, was := range l {
			if was.Prefix == one.Prefix {
				continue
			}
			for _, some := range [][]api.Route{m, less} {
				if found, why := trie.Find(some, was.Prefix); found != was || why != api.OK {
					t.Fatalf("another one behind Put(%v, %v): %v, error %d", l, one, found, why)
				}
			}
		}
	}
}

func TestTheOrderOfPutsIsNoMatter(t *testing.T) {
	r := rand.New(rand.NewSource(1540))
	for _, l := range append(rights(), someRoutes(r, 200), someRoutes(r, 200)) {
		for range 3 {
			mixed := slices.Clone(l)
			r.Shuffle(len(mixed), func(i, j int) { mixed[i], mixed[j] = mixed[j], mixed[i] })
			var m []api.Route
			for _, one := range mixed {
				m, _ = trie.Put(m, one)
			}
			if !slices.Equal(m, l) {
				t.Fatalf("%v were put, and are %v", mixed, m)
			}
			r.Shuffle(len(mixed), func(i, j int) { mixed[i], mixed[j] = mixed[j], mixed[i] })
			for _, one := range mixed {
				m, _ = trie.Del(m, one.Prefix)
			}
			if len(m) != 0 {
				t.Fatalf("all were taken out, and there are %v", m)
			}
		}
	}
}

// 15.5

func TestNoOtherOneIsLonger(t *testing.T) {
	for _, l := range rights() {
		for _, six := range kinds {
			for _, a := range addressesOf(l, six) {
				found, why := trie.Longest(l, six, a)
				for _, r := range l {
					if plainHas(r.Prefix, six, a) && (why != api.OK || r.Prefix.Len > found.Prefix.Len) {
						t.Fatalf("Longest(%v, %t, %v): %v, error %d, and %v has it", l, six, a, found, why, r)
					}
				}
				if why == api.OK && (!plainHas(found.Prefix, six, a) || !slices.Contains(l, found)) {
					t.Fatalf("Longest(%v, %t, %v): %v, which has it not", l, six, a, found)
				}
			}
		}
	}
}

// 15.6

// amid answers some addresses from one up to another one: both, and such with few bits of their own.
func amid(from, to netip.Addr) []netip.Addr {
	some := []netip.Addr{from, to}
	for i := range from.BitLen() {
		p, _ := to.Prefix(i)
		if p.Addr().Compare(from) >= 0 {
			some = append(some, p.Addr())
		}
		if next := plainLast(read(netip.PrefixFrom(from, i).Masked().String())); next.Compare(to) <= 0 {
			some = append(some, next)
		}
	}
	return some
}

func TestBetweenCutsThereIsOneRoute(t *testing.T) {
	r := rand.New(rand.NewSource(156))
	for _, l := range append(rights()[:11], someRoutes(r, 9), someRoutes(r, 15), chain("10.170.85.1", deliver, forward)) {
		for _, six := range kinds {
			cuts, _ := trie.Cuts(l, six)
			for i, cut := range cuts {
				from, _ := plainAddr(six, cut)
				to := plainLast(api.Prefix{Six: six})
				if i+1 < len(cuts) {
					next, _ := plainAddr(six, cuts[i+1])
					to = next.Prev()
				}
				want, no := trie.Longest(l, six, cut)
				for _, a := range amid(from, to) {
					if found, why := trie.Longest(l, six, address(a)); found != want || why != no {
						t.Fatalf("of %v %v has %v, error %d, and %v has %v, error %d", l, from, want, no, a, found, why)
					}
				}
			}
		}
	}
}

// 15.7

func slimDoesTheSame(t *testing.T, l []api.Route) {
	t.Helper()
	slim, _ := trie.Slim(l)
	if again, why := trie.Slim(slim); !slices.Equal(again, slim) || why != api.OK {
		t.Fatalf("slim once more %v are %v, error %d", slim, again, why)
	}
	for _, six := range kinds {
		for _, a := range addressesOf(l, six) {
			was, no := trie.Longest(l, six, a)
			is, why := trie.Longest(slim, six, a)
			if was.Action != is.Action || no != why {
				t.Fatalf("of %v %v has %v, error %d, and slim %v, error %d", l, a, was, no, is, why)
			}
		}
	}
}

func TestSlimDoesTheSame(t *testing.T) {
	r := rand.New(rand.NewSource(157))
	for _, l := range rights() {
		slimDoesTheSame(t, l)
	}
	for range 200 {
		slimDoesTheSame(t, someRoutes(r, r.Intn(30)))
	}
	for _, s := range smallPlaces[:2] {
		eachOfSeven(s, func(l []api.Route) { slimDoesTheSame(t, l) })
	}
}

// P1, P3, P4

func FuzzAnyRoutes(f *testing.F) {
	f.Add(false, uint64(0), uint64(10<<24), 8, uint8(2), 0, false, uint64(0), uint64(10<<24), 9, uint8(1), 3, uint64(0), uint64(10<<24))
	f.Add(true, uint64(1), uint64(0), 64, uint8(3), 0, true, uint64(1), uint64(1<<63), 65, uint8(3), 0, uint64(1), uint64(1<<63+7))
	f.Add(true, uint64(0), uint64(0), -1, uint8(9), -3, false, uint64(1), uint64(1<<33), 33, uint8(0), 1<<20, uint64(1), uint64(1<<40))
	f.Fuzz(func(t *testing.T, sixA bool, hiA, loA uint64, lenA int, kindA uint8, ifaceA int, sixB bool, hiB, loB uint64, lenB int, kindB uint8, ifaceB int, hi, lo uint64) {
		a := api.Route{Prefix: api.Prefix{Six: sixA, Addr: api.Addr{Hi: hiA, Lo: loA}, Len: lenA}, Action: api.Action{Kind: api.ActionKind(kindA), Iface: ifaceA}}
		b := api.Route{Prefix: api.Prefix{Six: sixB, Addr: api.Addr{Hi: hiB, Lo: loB}, Len: lenB}, Action: api.Action{Kind: api.ActionKind(kindB), Iface: ifaceB}}
		for _, l := range [][]api.Route{nil, {a}, {b}, {a, b}, {b, a}, {a, a}} {
			if why := trie.Check(l); why != plainCheck(l) {
				t.Fatalf("Check(%v): error %d", l, why)
			}
			for _, one := range []api.Route{a, b} {
				if plainCheck(l) == api.OK && plainRight(one) {
					changesAsPlain(t, l, one)
				} else if m, why := trie.Put(l, one); len(m) != 0 || why != api.ErrForm {
					t.Fatalf("Put(%v, %v): %v, error %d", l, one, m, why)
				}
			}
			if plainCheck(l) == api.OK {
				wholeAsPlain(t, l)
			}
			for _, six := range kinds {
				to := api.Addr{Hi: hi, Lo: lo}
				_, is := plainAddr(six, to)
				if plainCheck(l) == api.OK && is {
					longestAsPlain(t, l, six, to)
				} else if r, why := trie.Longest(l, six, to); r != (api.Route{}) || why != api.ErrForm {
					t.Fatalf("Longest(%v, %t, %v): %v, error %d", l, six, to, r, why)
				}
			}
		}
	})
}

// Far too many routes, and full ones many a time, take no longer than their number asks for.
func TestManyRoutes(t *testing.T) {
	far := make([]api.Route, 1<<22)
	for range 1000 {
		if why := trie.Check(far); why != api.ErrForm {
			t.Fatalf("Check: error %d", why)
		}
	}
	l := full()
	for i := range 5000 {
		a := api.Addr{Lo: 192<<24 + uint64(i)<<8}
		longest, why := trie.Longest(l, false, a)
		if want, no := plainLongest(l, false, a); longest != want || why != no {
			t.Fatalf("Longest(%v): %v, error %d", a, longest, why)
		}
	}
}

func TestAnswersHangOnArgumentsAlone(t *testing.T) {
	r := rand.New(rand.NewSource(150))
	l := someRoutes(r, 90)
	slim, _ := trie.Slim(l)
	cuts, _ := trie.Cuts(l, true)
	m, _ := trie.Put(l, route("10.0.0.0/8", deliver))
	for range 3 {
		trie.Slim(full())
		trie.Cuts(full(), true)
		for _, some := range [][]api.Route{slices.Clone(l), roomy(l)} {
			again, _ := trie.Slim(some)
			cutsAgain, _ := trie.Cuts(some, true)
			mAgain, _ := trie.Put(some, route("10.0.0.0/8", deliver))
			if !slices.Equal(again, slim) || !slices.Equal(cutsAgain, cuts) || !slices.Equal(mAgain, m) {
				t.Fatal("an answer turned")
			}
		}
	}
	for _, none := range [][]api.Route{nil, {}, make([]api.Route, 0, 9)} {
		wholeAsPlain(t, none)
		changesAsPlain(t, none, route("10.0.0.0/8", deliver))
		longestAsPlain(t, none, true, api.Addr{})
	}
}

func TestNoGoroutineIsLeft(t *testing.T) {
	before := runtime.NumGoroutine()
	for _, l := range slices.Concat(rights(), wrongs()) {
		trie.Check(l)
		trie.Put(l, route("10.0.0.0/8", deliver))
		trie.Del(l, read("10.0.0.0/8"))
		trie.Find(l, read("10.0.0.0/8"))
		trie.Slim(l)
		for _, six := range kinds {
			trie.Longest(l, six, api.Addr{})
			trie.Cuts(l, six)
		}
	}
	if after := runtime.NumGoroutine(); after > before {
		t.Errorf("%d goroutines, and %d ahead of the calls", after, before)
	}
}
