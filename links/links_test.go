package links_test

import (
	"cmp"
	"maps"
	"math"
	"math/rand"
	"runtime"
	"slices"
	"testing"

	"spoor/api"
	"spoor/links"
)

// The calls have the signatures of doc/16-links.md.
var (
	_ func([]api.Link) api.Errno                         = links.Check
	_ func([]api.Link, api.Link) ([]api.Link, api.Errno) = links.Put
	_ func([]api.Link, int) ([]api.Link, api.Errno)      = links.Del
	_ func([]api.Link, int) (int, api.Errno)             = links.Peer
	_ func([]api.Link) ([]int, api.Errno)                = links.Peers
)

// What follows is plain, by the document's words.

func plainRight(x api.Link) bool {
	return 0 <= x.Iface && x.Iface <= 65536 && 0 <= x.Peer && x.Peer <= 1048576
}

func plainCheck(l []api.Link) api.Errno {
	for i, x := range l {
		if !plainRight(x) || i > 0 && l[i-1].Iface >= x.Iface {
			return api.ErrForm
		}
	}
	if len(l) > 32 {
		return api.ErrForm
	}
	return api.OK
}

// noted are right links by their interfaces.
func noted(l []api.Link) map[int]api.Link {
	m := map[int]api.Link{}
	for _, x := range l {
		m[x.Iface] = x
	}
	return m
}

func sorted(m map[int]api.Link) []api.Link {
	return slices.SortedFunc(maps.Values(m), func(a, b api.Link) int { return cmp.Compare(a.Iface, b.Iface) })
}

func plainPut(l []api.Link, x api.Link) ([]api.Link, api.Errno) {
	m := noted(l)
	m[x.Iface] = x
	if len(m) > 32 {
		return l, api.ErrFull
	}
	return sorted(m), api.OK
}

func plainDel(l []api.Link, iface int) ([]api.Link, api.Errno) {
	m := noted(l)
	if _, is := m[iface]; !is {
		return l, api.ErrNone
	}
	delete(m, iface)
	return sorted(m), api.OK
}

func plainPeer(l []api.Link, iface int) (int, api.Errno) {
	x, is := noted(l)[iface]
	if !is {
		return 0, api.ErrNone
	}
	return x.Peer, api.OK
}

func plainPeers(l []api.Link) []int {
	var all []int
	for _, x := range l {
		if !slices.Contains(all, x.Peer) {
			all = append(all, x.Peer)
		}
	}
	slices.Sort(all)
	return all
}

// Samples.

// full are as many right links as there may be, by the interfaces 0, 3, 6, ..., to few peers.
func full() []api.Link {
	l := make([]api.Link, api.MaxLinks)
	for i := range l {
		l[i] = api.Link{Iface: 3 * i, Peer: i * i % 7}
	}
	return l
}

// rights are right links.
func rights() [][]api.Link {
	l := [][]api.Link{
		nil,
		{},
		{{}},
		{{Iface: 3, Peer: 7}},
		{{Iface: 3, Peer: 0}},
		{{Iface: 0, Peer: api.MaxId}},
		{{Iface: api.MaxIface, Peer: api.MaxId}},
		{{Iface: 0, Peer: api.MaxId}, {Iface: api.MaxIface}},
		{{Iface: 1, Peer: 9}, {Iface: 3, Peer: 7}, {Iface: 4, Peer: 7}},
		{{Iface: 1, Peer: 3}, {Iface: 2, Peer: 2}, {Iface: 3, Peer: 1}},
		{{Iface: 5, Peer: 5}, {Iface: 6, Peer: 5}, {Iface: 7, Peer: 5}},
		full(),
		full()[1:],
		full()[:api.MaxLinks-1],
	}
	last := full()
	for i := range last {
		last[i] = api.Link{Iface: api.MaxIface - api.MaxLinks + 1 + i, Peer: api.MaxId - i}
	}
	return append(l, last)
}

// wrongLinks are near right ones.
func wrongLinks() []api.Link {
	return []api.Link{
		{Iface: -1}, {Iface: math.MinInt}, {Iface: api.MaxIface + 1}, {Iface: math.MaxInt},
		{Iface: 3, Peer: -1}, {Iface: 3, Peer: math.MinInt}, {Iface: 3, Peer: api.MaxId + 1}, {Iface: 3, Peer: math.MaxInt}, {Iface: -1, Peer: -1},
	}
}

// wrongs are links that are not right.
func wrongs() [][]api.Link {
	fine := api.Link{Iface: 3, Peer: 7}
	l := [][]api.Link{
		{fine, fine},
		{fine, {Iface: 3, Peer: 8}},
		{fine, {Iface: 2, Peer: 8}},
		{{Iface: 2, Peer: 8}, {Iface: 4, Peer: 8}, fine},
		{fine, {Iface: 4, Peer: 8}, {Iface: 4, Peer: 8}},
		{{}, {}},
		append(full(), api.Link{Iface: api.MaxIface}),
		make([]api.Link, 1000),
	}
	for _, x := range wrongLinks() {
		l = append(l, []api.Link{x}, []api.Link{{Iface: 1}, x}, []api.Link{x, {Iface: api.MaxIface}}, []api.Link{{}, x, {Iface: api.MaxIface}})
	}
	return l
}

// ifaces are those of links, their neighbours, and such that are none.
func ifaces(l []api.Link) []int {
	all := []int{0, 1, 2, 3, 4, 93, api.MaxIface, api.MaxIface + 1, -1, math.MinInt, math.MaxInt}
	for _, x := range l {
		all = append(all, x.Iface-1, x.Iface, x.Iface+1)
	}
	return all
}

// asPlain holds all calls of right links against the plain forms.
func asPlain(t *testing.T, l []api.Link) {
	t.Helper()
	for _, iface := range ifaces(l) {
		want, no := plainDel(l, iface)
		if m, why := links.Del(l, iface); !slices.Equal(m, want) || why != no {
			t.Fatalf("Del(%v, %d): %v, error %d, not %v, %d", l, iface, m, why, want, no)
		}
		one, no := plainPeer(l, iface)
		if p, why := links.Peer(l, iface); p != one || why != no {
			t.Fatalf("Peer(%v, %d): %d, error %d, not %d, %d", l, iface, p, why, one, no)
		}
		for _, peer := range []int{0, 7, api.MaxId} {
			putAsPlain(t, l, api.Link{Iface: iface, Peer: peer})
		}
	}
	want := plainPeers(l)
	if p, why := links.Peers(l); !slices.Equal(p, want) || why != api.OK {
		t.Fatalf("Peers(%v): %v, error %d, not %v", l, p, why, want)
	}
}

func putAsPlain(t *testing.T, l []api.Link, x api.Link) {
	t.Helper()
	want, no := plainPut(l, x)
	if !plainRight(x) {
		want, no = nil, api.ErrForm
	}
	if m, why := links.Put(l, x); !slices.Equal(m, want) || why != no {
		t.Fatalf("Put(%v, %v): %v, error %d, not %v, %d", l, x, m, why, want, no)
	}
}

// someLinks are up to that many right links by chance.
func someLinks(r *rand.Rand, many int) []api.Link {
	m := map[int]api.Link{}
	for range many {
		x := api.Link{Iface: r.Intn(50), Peer: r.Intn(20)}
		m[x.Iface] = x
	}
	return sorted(m)
}

// 16.1

func TestCheckTakesWhatIsRight(t *testing.T) {
	for _, l := range rights() {
		if plainCheck(l) != api.OK {
			t.Fatalf("the sample %v is wrong", l)
		}
		if why := links.Check(l); why != api.OK {
			t.Errorf("Check(%v): error %d", l, why)
		}
	}
}

func TestCheckRefusesWhatIsNotRight(t *testing.T) {
	for _, l := range wrongs() {
		if plainCheck(l) != api.ErrForm {
			t.Fatalf("the sample %v is right", l)
		}
		if why := links.Check(l); why != api.ErrForm {
			t.Errorf("Check(%v): error %d", l, why)
		}
	}
	for i := range api.MaxLinks {
		l := full()
		l[i].Peer = -1
		if why := links.Check(l); why != api.ErrForm {
			t.Errorf("Check with a wrong link at %d: error %d", i, why)
		}
		if i == 0 {
			continue
		}
		l = full()
		l[i].Iface = l[i-1].Iface
		if why := links.Check(l); why != api.ErrForm {
			t.Errorf("Check with an interface that is twice, at %d: error %d", i, why)
		}
		l = full()
		l[i], l[i-1] = l[i-1], l[i]
		if why := links.Check(l); why != api.ErrForm {
			t.Errorf("Check with neighbours turned, at %d: error %d", i, why)
		}
	}
}

// What is not right is told first, and all else is zero.
func TestLinksThatAreNotRightAreRefused(t *testing.T) {
	for _, l := range wrongs() {
		for _, iface := range ifaces(l) {
			if m, why := links.Put(l, api.Link{Iface: iface, Peer: 7}); len(m) != 0 || why != api.ErrForm {
				t.Errorf("Put(%v, %d): %v, error %d", l, iface, m, why)
			}
			if m, why := links.Del(l, iface); len(m) != 0 || why != api.ErrForm {
				t.Errorf("Del(%v, %d): %v, error %d", l, iface, m, why)
			}
			if p, why := links.Peer(l, iface); p != 0 || why != api.ErrForm {
				t.Errorf("Peer(%v, %d): %d, error %d", l, iface, p, why)
			}
		}
		if p, why := links.Peers(l); len(p) != 0 || why != api.ErrForm {
			t.Errorf("Peers(%v): %v, error %d", l, p, why)
		}
	}
	for _, l := range rights() {
		for _, x := range wrongLinks() {
			if m, why := links.Put(l, x); len(m) != 0 || why != api.ErrForm { // of full links, too
				t.Errorf("Put(%v, %v): %v, error %d", l, x, m, why)
			}
		}
	}
}

func TestCallsByTheWords(t *testing.T) {
	for _, l := range rights() {
		asPlain(t, l)
	}
	r := rand.New(rand.NewSource(16))
	for range 300 {
		asPlain(t, someLinks(r, r.Intn(32)))
	}
}

func TestPutInItsPlace(t *testing.T) {
	l := []api.Link{{Iface: 2, Peer: 8}, {Iface: 4, Peer: 6}}
	for _, c := range []struct {
		x    api.Link
		want []api.Link
	}{
		{api.Link{Iface: 0, Peer: 9}, []api.Link{{Iface: 0, Peer: 9}, l[0], l[1]}},
		{api.Link{Iface: 2, Peer: 9}, []api.Link{{Iface: 2, Peer: 9}, l[1]}},
		{api.Link{Iface: 3, Peer: 6}, []api.Link{l[0], {Iface: 3, Peer: 6}, l[1]}},
		{api.Link{Iface: 4, Peer: 0}, []api.Link{l[0], {Iface: 4, Peer: 0}}},
		{api.Link{Iface: 4, Peer: 6}, l},
		{api.Link{Iface: api.MaxIface, Peer: api.MaxId}, []api.Link{l[0], l[1], {Iface: api.MaxIface, Peer: api.MaxId}}},
	} {
		if m, why := links.Put(l, c.x); !slices.Equal(m, c.want) || why != api.OK {
			t.Errorf("Put(%v): %v, error %d, not %v", c.x, m, why, c.want)
		}
	}
}

// MaxLinks are taken, and no one more; one that is there is changed all the same.
func TestLinksUpToTheLimit(t *testing.T) {
	var l []api.Link
	for i := range api.MaxLinks {
		m, why := links.Put(l, api.Link{Iface: api.MaxIface - i*i, Peer: 5}) // they come from behind
		if why != api.OK || len(m) != i+1 || links.Check(m) != api.OK {
			t.Fatalf("link %d: %v, error %d", i, m, why)
		}
		l = m
	}
	for _, iface := range []int{0, api.MaxIface - 2, api.MaxIface - 3} {
		if m, why := links.Put(l, api.Link{Iface: iface, Peer: 5}); !slices.Equal(m, l) || why != api.ErrFull {
			t.Errorf("one link more: %v, error %d", m, why)
		}
	}
	for i, was := range l {
		m, why := links.Put(l, api.Link{Iface: was.Iface, Peer: 6})
		if len(m) != api.MaxLinks || why != api.OK || m[i].Peer != 6 {
			t.Errorf("a link that is there: %v, error %d", m, why)
		}
		less, why := links.Del(l, was.Iface)
		if len(less) != api.MaxLinks-1 || why != api.OK {
			t.Errorf("a link that is there: %v without it, error %d", less, why)
		}
		if m, why := links.Put(less, was); !slices.Equal(m, l) || why != api.OK {
			t.Errorf("and again: %v, error %d", m, why)
		}
	}
}

// 16.2

func TestExample(t *testing.T) {
	l, why := links.Put(nil, api.Link{Iface: 3, Peer: 7})
	if !slices.Equal(l, []api.Link{{Iface: 3, Peer: 7}}) || why != api.OK {
		t.Fatalf("Put: %v, error %d", l, why)
	}
	if p, why := links.Peer(l, 3); p != 7 || why != api.OK {
		t.Errorf("Peer of 3: %d, error %d", p, why)
	}
	if p, why := links.Peer(l, 4); p != 0 || why != api.ErrNone {
		t.Errorf("Peer of 4: %d, error %d", p, why)
	}
}

func TestPeersByCases(t *testing.T) {
	for _, c := range []struct {
		l    []api.Link
		want []int
	}{
		{nil, nil},
		{[]api.Link{{}}, []int{0}},
		{[]api.Link{{Iface: 1, Peer: 9}, {Iface: 3, Peer: 7}, {Iface: 4, Peer: 7}}, []int{7, 9}},
		{[]api.Link{{Iface: 5, Peer: 5}, {Iface: 6, Peer: 5}, {Iface: 7, Peer: 5}}, []int{5}},
		{[]api.Link{{Iface: 1, Peer: api.MaxId}, {Iface: 2, Peer: 2}, {Iface: 3, Peer: 0}}, []int{0, 2, api.MaxId}},
		{full(), []int{0, 1, 2, 4}},
	} {
		for range 20 { // whatever the order of a map is
			if p, why := links.Peers(c.l); !slices.Equal(p, c.want) || why != api.OK {
				t.Fatalf("Peers(%v): %v, error %d, not %v", c.l, p, why, c.want)
			}
		}
	}
}

// 16.3

// spoil turns all that a list has room for.
func spoil[T any](l []T, to T) {
	for i := range l[:cap(l)] {
		l[:cap(l)][i] = to
	}
}

// roomy is a list with room behind it, which is anyone's.
func roomy(l []api.Link) []api.Link {
	return append(slices.Clone(l), make([]api.Link, 4)...)[:len(l)]
}

func asItWas(t *testing.T, name string, l, plain []api.Link) {
	t.Helper()
	if !slices.Equal(l, plain) || !slices.Equal(l[:cap(l)][len(l):], make([]api.Link, cap(l)-len(l))) {
		t.Fatalf("%s turned links: %v", name, l[:cap(l)])
	}
}

// What is answered and what was handed in are turned in turn, and each leaves the other one as it was.
func TestLinksAreNewMemory(t *testing.T) {
	junk := api.Link{Iface: -7, Peer: -77}
	for _, plain := range slices.Concat(rights(), wrongs()) {
		for _, iface := range ifaces(plain) {
			for name, call := range map[string]func(l []api.Link) []api.Link{
				"Put": func(l []api.Link) []api.Link { m, _ := links.Put(l, api.Link{Iface: iface, Peer: 9}); return m },
				"Del": func(l []api.Link) []api.Link { m, _ := links.Del(l, iface); return m },
			} {
				l := roomy(plain)
				m, other := call(l), call(l)
				asItWas(t, name, l, plain)
				want := slices.Clone(m)
				spoil(l, junk)
				spoil(other, junk)
				if !slices.Equal(m, want) {
					t.Fatalf("%s of %d shares memory: %v", name, iface, m)
				}
			}
		}
	}
}

func TestPeersAreNewMemory(t *testing.T) {
	for _, plain := range rights() {
		l := roomy(plain)
		p, _ := links.Peers(l)
		other, _ := links.Peers(l)
		want := slices.Clone(p)
		spoil(other, -7)
		if !slices.Equal(p, want) {
			t.Fatalf("Peers share memory: %v", p)
		}
		links.Peer(l, 3)
		links.Check(l)
		asItWas(t, "a call", l, plain)
	}
}

// 16.4

func TestPutIsFound(t *testing.T) {
	r := rand.New(rand.NewSource(164))
	for range 2000 {
		l := someLinks(r, r.Intn(31))
		x := api.Link{Iface: r.Intn(50), Peer: r.Intn(20)}
		m, why := links.Put(l, x)
		if why != api.OK {
			t.Fatalf("Put(%v, %v): error %d", l, x, why)
		}
		if p, why := links.Peer(m, x.Iface); p != x.Peer || why != api.OK {
			t.Fatalf("Peer behind Put(%v, %v): %d, error %d", l, x, p, why)
		}
		less, why := links.Del(m, x.Iface)
		if _, no := links.Peer(less, x.Iface); why != api.OK || no != api.ErrNone {
			t.Fatalf("Del behind Put(%v, %v): errors %d, %d", l, x, why, no)
		}
		for _, was := range l {
			if was.Iface == x.Iface {
				continue
			}
			for _, some := range [][]api.Link{m, less} {
				if p, why := links.Peer(some, was.Iface); p != was.Peer || why != api.OK {
					t.Fatalf("another one behind Put(%v, %v): %d, error %d", l, x, p, why)
				}
			}
		}
	}
}

func TestTheOrderOfPutsIsNoMatter(t *testing.T) {
	r := rand.New(rand.NewSource(1640))
	for _, l := range append(rights(), someLinks(r, 20), someLinks(r, 30)) {
		for range 5 {
			mixed := slices.Clone(l)
			r.Shuffle(len(mixed), func(i, j int) { mixed[i], mixed[j] = mixed[j], mixed[i] })
			var m []api.Link
			for _, x := range mixed {
				m, _ = links.Put(m, x)
			}
			if !slices.Equal(m, l) {
				t.Fatalf("%v were put, and are %v", mixed, m)
			}
			r.Shuffle(len(mixed), func(i, j int) { mixed[i], mixed[j] = mixed[j], mixed[i] })
			for _, x := range mixed {
				m, _ = links.Del(m, x.Iface)
			}
			if len(m) != 0 {
				t.Fatalf("all were taken out, and there are %v", m)
			}
		}
	}
}

// 16.5

func TestARouterIsAPeerJustIfAnInterfaceLeadsToIt(t *testing.T) {
	r := rand.New(rand.NewSource(165))
	for range 300 {
		l := someLinks(r, r.Intn(32))
		peers, _ := links.Peers(l)
		for router := range 22 {
			leads := false
			for iface := range 52 {
				p, why := links.Peer(l, iface)
				leads = leads || why == api.OK && p == router
			}
			if is := slices.Contains(peers, router); is != leads {
				t.Fatalf("of %v the peers are %v, and to %d leads an interface: %t", l, peers, router, leads)
			}
		}
	}
}

// P1, P3, P4

func FuzzAnyLinks(f *testing.F) {
	f.Add(3, 7, 4, 7, 5, 9)
	f.Add(3, 7, 3, 8, 3, 9)
	f.Add(-1, 0, 1<<16, 1<<20, 1<<16+1, 1<<20+1)
	f.Fuzz(func(t *testing.T, ifaceA, peerA, ifaceB, peerB, iface, peer int) {
		a, b := api.Link{Iface: ifaceA, Peer: peerA}, api.Link{Iface: ifaceB, Peer: peerB}
		for _, l := range [][]api.Link{nil, {a}, {b}, {a, b}, {b, a}, {a, a}} {
			no := plainCheck(l)
			if why := links.Check(l); why != no {
				t.Fatalf("Check(%v): error %d", l, why)
			}
			if no == api.OK {
				asPlain(t, l)
				putAsPlain(t, l, api.Link{Iface: iface, Peer: peer})
				continue
			}
			m, w1 := links.Put(l, api.Link{Iface: iface, Peer: peer})
			n, w2 := links.Del(l, iface)
			p, w3 := links.Peer(l, iface)
			all, w4 := links.Peers(l)
			if len(m) != 0 || len(n) != 0 || p != 0 || len(all) != 0 || w1 != no || w2 != no || w3 != no || w4 != no {
				t.Fatalf("%v: %v, %v, %d, %v, errors %d, %d, %d, %d", l, m, n, p, all, w1, w2, w3, w4)
			}
		}
	})
}

// Far too many links take no longer than few.
func TestManyLinks(t *testing.T) {
	far := make([]api.Link, 1<<22)
	for range 1000 {
		if why := links.Check(far); why != api.ErrForm {
			t.Fatalf("Check: error %d", why)
		}
		if m, why := links.Put(far, api.Link{}); len(m) != 0 || why != api.ErrForm {
			t.Fatalf("Put: %d links, error %d", len(m), why)
		}
	}
}

func TestAnswersHangOnArgumentsAlone(t *testing.T) {
	r := rand.New(rand.NewSource(160))
	l := someLinks(r, 25)
	peers, _ := links.Peers(l)
	m, _ := links.Put(l, api.Link{Iface: 60, Peer: 2})
	for range 20 {
		links.Peers(full())
		for _, some := range [][]api.Link{slices.Clone(l), roomy(l)} {
			again, _ := links.Peers(some)
			mAgain, _ := links.Put(some, api.Link{Iface: 60, Peer: 2})
			if !slices.Equal(again, peers) || !slices.Equal(mAgain, m) {
				t.Fatal("an answer turned")
			}
		}
	}
	for _, none := range [][]api.Link{nil, {}, make([]api.Link, 0, 9)} {
		asPlain(t, none)
	}
}

func TestNoGoroutineIsLeft(t *testing.T) {
	before := runtime.NumGoroutine()
	for _, l := range slices.Concat(rights(), wrongs()) {
		links.Check(l)
		links.Put(l, api.Link{Iface: 3, Peer: 7})
		links.Del(l, 3)
		links.Peer(l, 3)
		links.Peers(l)
	}
	if after := runtime.NumGoroutine(); after > before {
		t.Errorf("%d goroutines, and %d ahead of the calls", after, before)
	}
}
