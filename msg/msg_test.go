package msg_test

import (
	"encoding/binary"
	"math"
	"math/rand"
	"net/netip"
	"runtime"
	"slices"
	"strings"
	"testing"
	"unsafe"

	"spoor/api"
	"spoor/msg"
)

// The calls have the signatures of doc/11-msg.md.
var (
	_ func(api.Event) api.Errno                    = msg.Check
	_ func(api.Event) (string, api.Errno)          = msg.Put
	_ func(string) (api.Event, api.Errno)          = msg.Get
	_ func(api.Prefix) (string, api.Errno)         = msg.PutPrefix
	_ func(string) (api.Prefix, string, api.Errno) = msg.GetPrefix
	_ func(api.Action) (string, api.Errno)         = msg.PutAction
	_ func(string) (api.Action, string, api.Errno) = msg.GetAction
)

// What follows is plain, by Go's library.

// plainAddr is an address as the library has it, if there is one.
func plainAddr(six bool, a api.Addr) (netip.Addr, bool) {
	if six {
		var b [16]byte
		binary.BigEndian.PutUint64(b[:8], a.Hi)
		binary.BigEndian.PutUint64(b[8:], a.Lo)
		return netip.AddrFrom16(b), true
	}
	if a.Hi != 0 || a.Lo > math.MaxUint32 {
		return netip.Addr{}, false
	}
	var b [4]byte
	binary.BigEndian.PutUint32(b[:], uint32(a.Lo))
	return netip.AddrFrom4(b), true
}

// plainRightPrefix asks the library whether an address has no bit behind a length.
func plainRightPrefix(p api.Prefix) bool {
	a, is := plainAddr(p.Six, p.Addr)
	if !is {
		return false
	}
	masked, err := a.Prefix(p.Len)
	return err == nil && masked.Addr() == a
}

func plainPrefix(p api.Prefix) string {
	mark := "\x04"
	if p.Six {
		mark = "\x06"
	}
	a, _ := plainAddr(p.Six, p.Addr)
	many := 0
	for many*8 < p.Len {
		many++
	}
	return mark + string([]byte{byte(p.Len)}) + string(a.AsSlice()[:many])
}

func plainRightAction(a api.Action) bool {
	switch a.Kind {
	case api.ActionForward:
		return a.Iface >= 0 && a.Iface <= 1<<16
	case api.ActionDeliver, api.ActionDiscard:
		return a.Iface == 0
	}
	return false
}

func plainAction(a api.Action) string {
	s := string([]byte{byte(a.Kind)})
	if a.Kind == api.ActionForward {
		s += plainNum(uint64(a.Iface))
	}
	return s
}

func plainNum(n uint64) string {
	return string(binary.AppendUvarint(nil, n))
}

// plainRight tells by the document's words, kind by kind, whether an event is right.
func plainRight(e api.Event) bool {
	if e.Router < 0 || e.Router > 1<<20 || e.Seq < 1 || e.Seq > 1<<40 || e.Time < 0 || e.Time > 1<<40 {
		return false
	}
	noPrefix, noAction, noIface, noPeer := e.Prefix == api.Prefix{}, e.Action == api.Action{}, e.Iface == 0, e.Peer == 0
	isIface := e.Iface >= 0 && e.Iface <= 1<<16
	switch e.Kind {
	case api.EventUp, api.EventDown:
		return noPrefix && noAction && noIface && noPeer
	case api.EventAdd:
		return plainRightPrefix(e.Prefix) && plainRightAction(e.Action) && noIface && noPeer
	case api.EventWithdraw:
		return plainRightPrefix(e.Prefix) && noAction && noIface && noPeer
	case api.EventLinkUp:
		return noPrefix && noAction && isIface && e.Peer >= 0 && e.Peer <= 1<<20
	case api.EventLinkDown:
		return noPrefix && noAction && isIface && noPeer
	}
	return false
}

func plainBody(e api.Event) string {
	s := string([]byte{byte(e.Kind)}) + plainNum(uint64(e.Router)) + plainNum(e.Seq) + plainNum(uint64(e.Time))
	switch e.Kind {
	case api.EventAdd:
		s += plainPrefix(e.Prefix) + plainAction(e.Action)
	case api.EventWithdraw:
		s += plainPrefix(e.Prefix)
	case api.EventLinkUp:
		s += plainNum(uint64(e.Iface)) + plainNum(uint64(e.Peer))
	case api.EventLinkDown:
		s += plainNum(uint64(e.Iface))
	}
	return s
}

// Samples.

var (
	ten  = api.Prefix{Addr: api.Addr{Lo: 10 << 24}, Len: 8}
	most = api.Addr{Hi: math.MaxUint64, Lo: math.MaxUint64}
)

// prefixes are right ones: of each length the least, the greatest, and some by chance.
func prefixes() []api.Prefix {
	r := rand.New(rand.NewSource(11))
	var l []api.Prefix
	for _, six := range []bool{false, true} {
		wide, full := 32, api.Addr{Lo: math.MaxUint32}
		if six {
			wide, full = 128, most
		}
		for long := range wide + 1 {
			for _, a := range []api.Addr{{}, full, {Hi: r.Uint64() & full.Hi, Lo: r.Uint64() & full.Lo}, {Hi: r.Uint64() & full.Hi, Lo: r.Uint64() & full.Lo}} {
				l = append(l, masked(six, a, long))
			}
		}
	}
	return l
}

// masked is the prefix of a length that an address is in, by the library.
func masked(six bool, a api.Addr, long int) api.Prefix {
	whole, _ := plainAddr(six, a)
	p, _ := whole.Prefix(long)
	b := p.Addr().AsSlice()
	if six {
		return api.Prefix{Six: true, Addr: api.Addr{Hi: binary.BigEndian.Uint64(b[:8]), Lo: binary.BigEndian.Uint64(b[8:])}, Len: long}
	}
	return api.Prefix{Addr: api.Addr{Lo: uint64(binary.BigEndian.Uint32(b))}, Len: long}
}

// wrongPrefixes are near right ones.
func wrongPrefixes() []api.Prefix {
	return []api.Prefix{
		{Len: -1}, {Len: 33}, {Len: 128}, {Len: 256}, {Len: 264}, {Len: math.MinInt}, {Len: math.MaxInt},
		{Six: true, Len: -1}, {Six: true, Len: 129}, {Six: true, Len: 256}, {Six: true, Len: math.MinInt}, {Six: true, Len: math.MaxInt},
		{Addr: api.Addr{Lo: 1}, Len: 31}, {Addr: api.Addr{Lo: 1}}, {Addr: api.Addr{Lo: 10<<24 | 1<<23}, Len: 8}, {Addr: api.Addr{Lo: 1 << 32}, Len: 32}, {Addr: api.Addr{Hi: 1}, Len: 32},
		{Addr: api.Addr{Hi: 1}}, {Addr: most, Len: 32}, {Six: true, Addr: most, Len: 127}, {Six: true, Addr: api.Addr{Lo: 1}, Len: 64}, {Six: true, Addr: api.Addr{Hi: 1}, Len: 63},
	}
}

func rightActions() []api.Action {
	l := []api.Action{{Kind: api.ActionDeliver}, {Kind: api.ActionDiscard}}
	for _, i := range []int{0, 1, 7, 127, 128, 300, 16383, 16384, 65535, api.MaxIface} {
		l = append(l, api.Action{Kind: api.ActionForward, Iface: i})
	}
	return l
}

func wrongActions() []api.Action {
	l := []api.Action{{}, {Iface: 1}, {Kind: api.ActionCount}, {Kind: 5}, {Kind: 0x81}, {Kind: 255}, {Kind: api.ActionDeliver, Iface: 1}, {Kind: api.ActionDiscard, Iface: api.MaxIface}, {Kind: api.ActionDeliver, Iface: -1}}
	for _, i := range []int{-1, math.MinInt, api.MaxIface + 1, 1 << 32, math.MaxInt} {
		l = append(l, api.Action{Kind: api.ActionForward, Iface: i})
	}
	return l
}

// heads are events without what is of their kind alone, at the edges of what all have.
func heads() []api.Event {
	var l []api.Event
	for _, router := range []int{0, 1, 127, 128, api.MaxId - 1, api.MaxId} {
		for _, seq := range []uint64{1, 2, 127, 128, api.MaxSeq - 1, api.MaxSeq} {
			for _, time := range []int64{0, 5, 127, 300, api.MaxTime - 1, api.MaxTime} {
				l = append(l, api.Event{Router: router, Seq: seq, Time: time})
			}
		}
	}
	return l
}

// ofAllKinds are right events that have a head's parts.
func ofAllKinds(head api.Event, p api.Prefix, a api.Action, iface, peer int) []api.Event {
	l := slices.Repeat([]api.Event{head}, 6)
	for i := range l {
		l[i].Kind = api.EventKind(i + 1)
	}
	l[2].Prefix, l[2].Action, l[3].Prefix = p, a, p
	l[4].Iface, l[4].Peer, l[5].Iface = iface, peer, iface
	return l
}

// events are right ones of all kinds: each part at its edges.
func events() []api.Event {
	var l []api.Event
	for _, h := range heads() {
		l = append(l, ofAllKinds(h, ten, api.Action{Kind: api.ActionForward, Iface: 7}, 3, 4)...)
	}
	h := api.Event{Router: 300, Seq: 1, Time: 7}
	for _, p := range prefixes() {
		l = append(l, ofAllKinds(h, p, api.Action{Kind: api.ActionDeliver}, 0, 0)[2:4]...)
	}
	for _, a := range rightActions() {
		l = append(l, ofAllKinds(h, api.Prefix{}, a, 0, 0)[2])
	}
	for _, iface := range []int{0, 1, 127, 128, api.MaxIface} {
		for _, peer := range []int{0, 1, 127, 128, api.MaxId} {
			l = append(l, ofAllKinds(h, ten, api.Action{}, iface, peer)[4:]...)
		}
	}
	return l
}

// anyOf answers one of some things by chance.
func anyOf[T any](r *rand.Rand, l []T) T {
	return l[r.Intn(len(l))]
}

// chances are events by chance, most parts of which are zero or at an edge, right or not.
func chances(many int) []api.Event {
	r := rand.New(rand.NewSource(110))
	numbers := []int{0, 0, 0, 1, 1, 9, 300, -1, api.MaxIface, api.MaxIface + 1, api.MaxId, api.MaxId + 1, math.MaxInt, math.MinInt}
	prefixes := slices.Concat(make([]api.Prefix, 30), prefixes()[500:530], wrongPrefixes())
	actions := slices.Concat(make([]api.Action, 20), rightActions(), wrongActions())
	l := make([]api.Event, many)
	for i := range l {
		l[i] = api.Event{
			Kind: api.EventKind(r.Intn(9)), Router: anyOf(r, numbers), Seq: uint64(anyOf(r, numbers)), Time: int64(anyOf(r, numbers)),
			Prefix: anyOf(r, prefixes), Action: anyOf(r, actions), Iface: anyOf(r, numbers), Peer: anyOf(r, numbers),
		}
	}
	return l
}

// 11.1

func TestExamples(t *testing.T) {
	if s, why := msg.Put(api.Event{Kind: api.EventUp, Router: 1, Seq: 1, Time: 5}); s != "\x01\x01\x01\x05" || why != api.OK {
		t.Errorf("router 1's session begins: %x, error %d", s, why)
	}
	if s, why := msg.PutPrefix(ten); s != "\x04\x08\x0a" || why != api.OK {
		t.Errorf("10.0.0.0/8: %x, error %d", s, why)
	}
}

func TestBodiesOfEachKind(t *testing.T) {
	six := api.Prefix{Six: true, Addr: api.Addr{Hi: 0x20010db8 << 32}, Len: 33}
	for _, c := range []struct {
		e    api.Event
		body string
	}{
		{api.Event{Kind: api.EventUp, Seq: 1}, "\x01\x00\x01\x00"},
		{api.Event{Kind: api.EventDown, Router: 300, Seq: 128, Time: 127}, "\x02\xac\x02\x80\x01\x7f"},
		{api.Event{Kind: api.EventAdd, Router: 1, Seq: 2, Time: 300, Prefix: ten, Action: api.Action{Kind: api.ActionForward, Iface: 7}}, "\x03\x01\x02\xac\x02\x04\x08\x0a\x01\x07"},
		{api.Event{Kind: api.EventAdd, Router: 1, Seq: 2, Time: 3, Prefix: six, Action: api.Action{Kind: api.ActionForward, Iface: api.MaxIface}}, "\x03\x01\x02\x03\x06\x21\x20\x01\x0d\xb8\x00\x01\x80\x80\x04"},
		{api.Event{Kind: api.EventAdd, Router: 1, Seq: 2, Time: 3, Action: api.Action{Kind: api.ActionDeliver}}, "\x03\x01\x02\x03\x04\x00\x02"},
		{api.Event{Kind: api.EventAdd, Router: 1, Seq: 2, Time: 3, Prefix: api.Prefix{Six: true}, Action: api.Action{Kind: api.ActionDiscard}}, "\x03\x01\x02\x03\x06\x00\x03"},
		{api.Event{Kind: api.EventWithdraw, Router: 1, Seq: 2, Time: 3, Prefix: ten}, "\x04\x01\x02\x03\x04\x08\x0a"},
		{api.Event{Kind: api.EventLinkUp, Router: 1, Seq: 2, Time: 3, Iface: 300, Peer: 5}, "\x05\x01\x02\x03\xac\x02\x05"},
		{api.Event{Kind: api.EventLinkUp, Router: 1, Seq: 2, Time: 3}, "\x05\x01\x02\x03\x00\x00"},
		{api.Event{Kind: api.EventLinkDown, Router: 1, Seq: 2, Time: 3, Iface: 9}, "\x06\x01\x02\x03\x09"},
		{api.Event{Kind: api.EventLinkDown, Router: api.MaxId, Seq: api.MaxSeq, Time: api.MaxTime}, "\x06\x80\x80\x40\x80\x80\x80\x80\x80\x20\x80\x80\x80\x80\x80\x20\x00"},
	} {
		if s, why := msg.Put(c.e); s != c.body || why != api.OK {
			t.Errorf("Put(%v): %x, error %d, not %x", c.e, s, why, c.body)
		}
		if e, why := msg.Get(c.body); e != c.e || why != api.OK {
			t.Errorf("Get(%x): %v, error %d, not %v", c.body, e, why, c.e)
		}
	}
}

// asPlain holds Check and Put against the document's words.
func asPlain(t *testing.T, e api.Event) {
	t.Helper()
	body, want := "", api.ErrForm
	if plainRight(e) {
		body, want = plainBody(e), api.OK
	}
	if why := msg.Check(e); why != want {
		t.Fatalf("Check(%v): error %d, not %d", e, why, want)
	}
	if s, why := msg.Put(e); s != body || why != want {
		t.Fatalf("Put(%v): %x, error %d, not %x, error %d", e, s, why, body, want)
	}
}

func TestRightEventsAreTaken(t *testing.T) {
	for _, e := range events() {
		if !plainRight(e) {
			t.Fatalf("%v is no sample", e)
		}
		asPlain(t, e)
	}
}

// Of a right event of each kind one part alone is turned, to each edge and beyond: also those parts that the kind does not name.
func TestOnePartIsTurned(t *testing.T) {
	refused := 0
	turn := func(e api.Event) {
		asPlain(t, e)
		if msg.Check(e) != api.OK {
			refused++
		}
	}
	numbers := []int{math.MinInt, math.MinInt32, -1, 0, 1, api.MaxIface, api.MaxIface + 1, api.MaxId, api.MaxId + 1, 1 << 32, api.MaxTime, api.MaxTime + 1, math.MaxInt}
	for _, e := range ofAllKinds(api.Event{Router: 1, Seq: 2, Time: 3}, ten, api.Action{Kind: api.ActionForward, Iface: 7}, 8, 9) {
		asPlain(t, e)
		for kind := range 256 {
			f := e
			f.Kind = api.EventKind(kind)
			turn(f)
		}
		for _, n := range numbers {
			for part := range 5 {
				f := e
				switch part {
				case 0:
					f.Router = n
				case 1:
					f.Seq = uint64(n)
				case 2:
					f.Time = int64(n)
				case 3:
					f.Iface = n
				case 4:
					f.Peer = n
				}
				turn(f)
			}
		}
		for _, p := range append(wrongPrefixes(), prefixes()[1:9]...) {
			f := e
			f.Prefix = p
			turn(f)
		}
		for _, a := range append(wrongActions(), rightActions()...) {
			f := e
			f.Action = a
			turn(f)
		}
	}
	if refused < 1000 {
		t.Errorf("only %d were refused", refused)
	}
}

// What a kind does not name is refused even if it is right by itself.
func TestWhatIsNotNamedIsZero(t *testing.T) {
	h := api.Event{Router: 1, Seq: 2, Time: 3}
	prefix, action, iface, peer := h, h, h, h
	prefix.Prefix = api.Prefix{Six: true}
	action.Action = api.Action{Kind: api.ActionDeliver}
	iface.Iface = 1
	peer.Peer = 1
	named := map[api.EventKind]int{api.EventAdd: 0b0011, api.EventWithdraw: 0b0001, api.EventLinkUp: 0b1100, api.EventLinkDown: 0b0100}
	for kind := api.EventUp; kind < api.EventCount; kind++ {
		for i, e := range []api.Event{prefix, action, iface, peer} {
			e.Kind = kind
			if kind == api.EventAdd {
				e.Action = api.Action{Kind: api.ActionDeliver}
			}
			want := api.ErrForm
			if named[kind]>>i&1 == 1 {
				want = api.OK
			}
			if why := msg.Check(e); why != want {
				t.Errorf("Check(%v): error %d, not %d", e, why, want)
			}
		}
	}
}

func TestEventsByChance(t *testing.T) {
	right := 0
	for _, e := range chances(100000) {
		asPlain(t, e)
		if plainRight(e) {
			right++
		}
	}
	if right < 300 {
		t.Errorf("only %d were right", right)
	}
}

func TestGetRefuses(t *testing.T) {
	for _, s := range []string{
		"",
		"\x00", "\x01", "\x01\x01", "\x01\x01\x01",
		"\x00\x01\x01\x05", // a kind below all
		"\x07\x01\x01\x05", // and one above
		"\xff\x01\x01\x05", "\x81\x00\x01\x01\x05",
		"\x01\x01\x00\x05",                     // Seq 0
		"\x01\x01\x01\x05\x00",                 // something behind
		"\x01\x81\x00\x01\x05",                 // Router in more bytes than need be
		"\x01\x01\x81\x00\x05",                 // Seq
		"\x01\x01\x01\x85\x00",                 // Time
		"\x01\x81\x80\x40\x01\x05",             // Router MaxId + 1
		"\x01\x01\x81\x80\x80\x80\x80\x20\x05", // Seq MaxSeq + 1
		"\x01\x01\x01\x81\x80\x80\x80\x80\x20", // Time MaxTime + 1
		"\x01" + plainNum(math.MaxUint64) + "\x01\x05",
		"\x01" + plainNum(1<<32+1) + "\x01\x05",
		"\x01" + plainNum(1<<63+1) + "\x01\x05",
		"\x01\x01" + plainNum(math.MaxUint64) + "\x05",
		"\x01\x01\x01" + plainNum(1<<63+5),
		"\x01\x01\x01" + plainNum(math.MaxUint64),
		"\x01\x01\x01\xff\xff\xff\xff\xff\xff\xff\xff\xff\x02",
		"\x01\x01\x01\x80\x80\x80\x80\x80\x80\x80\x80\x80\x80\x01",
		"\x02\x01\x01\x05\x04\x08\x0a", // a prefix that its kind does not name
		"\x03\x01\x01\x05",             // no prefix
		"\x03\x01\x01\x05\x04\x08\x0a", // no action
		"\x03\x01\x01\x05\x04\x08\x0a\x00",
		"\x03\x01\x01\x05\x04\x08\x0a\x04",
		"\x03\x01\x01\x05\x04\x08\x0a\x01",             // no interface
		"\x03\x01\x01\x05\x04\x08\x0a\x01\x81\x80\x04", // MaxIface + 1
		"\x03\x01\x01\x05\x04\x08\x0a\x02\x00",         // an interface, but it delivers
		"\x03\x01\x01\x05\x05\x08\x0a\x02",             // of neither kind
		"\x03\x01\x01\x05\x04\x07\x0b\x02",             // a bit behind Len
		"\x03\x01\x01\x05\x04\x21\x0a\x00\x00\x00\x00\x02",
		"\x04\x01\x01\x05",
		"\x04\x01\x01\x05\x04\x08",
		"\x04\x01\x01\x05\x04\x08\x0a\x02",     // an action that its kind does not name
		"\x04\x01\x01\x05\x04\x08\x0a\x00\x00", // more of the address than has bits
		"\x05\x01\x01\x05", "\x05\x01\x01\x05\x03",
		"\x05\x01\x01\x05\x81\x80\x04\x03", // MaxIface + 1
		"\x05\x01\x01\x05\x03\x81\x80\x40", // Peer MaxId + 1
		"\x05\x01\x01\x05\x03\x04\x05",
		"\x06\x01\x01\x05",
		"\x06\x01\x01\x05\x03\x04", // a peer that its kind does not name
		"\x06\x01\x01\x05\x81\x80\x04",
		"\x06\x01\x01\x05\x81\x00",
		strings.Repeat("\x01", 1<<20), strings.Repeat("\x80", 1<<20), strings.Repeat("\xff", api.MaxBody),
	} {
		if e, why := msg.Get(s); e != (api.Event{}) || why != api.ErrCode {
			t.Errorf("Get(%.40x): %v, error %d", s, e, why)
		}
	}
}

// 11.2

func TestPrefixesAreTheDocuments(t *testing.T) {
	for _, c := range []struct {
		p api.Prefix
		s string
	}{
		{api.Prefix{}, "\x04\x00"},
		{api.Prefix{Six: true}, "\x06\x00"},
		{api.Prefix{Addr: api.Addr{Lo: 1 << 31}, Len: 1}, "\x04\x01\x80"},
		{api.Prefix{Addr: api.Addr{Lo: 10<<24 | 1<<23}, Len: 9}, "\x04\x09\x0a\x80"},
		{api.Prefix{Addr: api.Addr{Lo: 10 << 24}, Len: 9}, "\x04\x09\x0a\x00"},
		{api.Prefix{Addr: api.Addr{Lo: 0x01020304}, Len: 32}, "\x04\x20\x01\x02\x03\x04"},
		{api.Prefix{Addr: api.Addr{Lo: 0x01020300}, Len: 24}, "\x04\x18\x01\x02\x03"},
		{api.Prefix{Six: true, Addr: api.Addr{Hi: 0x0102030405060708}, Len: 64}, "\x06\x40\x01\x02\x03\x04\x05\x06\x07\x08"},
		{api.Prefix{Six: true, Addr: api.Addr{Hi: 0x0102030405060708, Lo: 1 << 63}, Len: 65}, "\x06\x41\x01\x02\x03\x04\x05\x06\x07\x08\x80"},
		{api.Prefix{Six: true, Addr: api.Addr{Hi: 0x0102030405060708, Lo: 0x090a0b0c0d0e0f10}, Len: 128}, "\x06\x80\x01\x02\x03\x04\x05\x06\x07\x08\x09\x0a\x0b\x0c\x0d\x0e\x0f\x10"},
	} {
		if s, why := msg.PutPrefix(c.p); s != c.s || why != api.OK {
			t.Errorf("PutPrefix(%v): %x, error %d, not %x", c.p, s, why, c.s)
		}
		if p, rest, why := msg.GetPrefix(c.s + "z"); p != c.p || rest != "z" || why != api.OK {
			t.Errorf("GetPrefix(%x z): %v, %x, error %d, not %v", c.s, p, rest, why, c.p)
		}
	}
}

// behinds are what may stand behind a prefix's or an action's bytes.
func behinds() []string {
	return []string{"", "z", "\x00", "\x01", "\x80", "\x04\x08\x0a", strings.Repeat("\xff", 200)}
}

func TestPrefixesThereAndBack(t *testing.T) {
	for _, p := range prefixes() {
		if !plainRightPrefix(p) {
			t.Fatalf("%v is no sample", p)
		}
		s, why := msg.PutPrefix(p)
		if s != plainPrefix(p) || why != api.OK {
			t.Fatalf("PutPrefix(%v): %x, error %d, not %x", p, s, why, plainPrefix(p))
		}
		for _, behind := range behinds() {
			if q, rest, why := msg.GetPrefix(s + behind); q != p || rest != behind || why != api.OK {
				t.Fatalf("GetPrefix(%x %x): %v, %x, error %d", s, behind, q, rest, why)
			}
		}
		for cut := range len(s) {
			if q, rest, why := msg.GetPrefix(s[:cut]); q != (api.Prefix{}) || rest != "" || why != api.ErrCode {
				t.Fatalf("GetPrefix(%x): %v, %x, error %d", s[:cut], q, rest, why)
			}
		}
	}
}

func TestPutRefusesWhatIsNotRight(t *testing.T) {
	for _, p := range wrongPrefixes() {
		if s, why := msg.PutPrefix(p); plainRightPrefix(p) || s != "" || why != api.ErrForm {
			t.Errorf("PutPrefix(%v): %x, error %d", p, s, why)
		}
	}
	for _, a := range wrongActions() {
		if s, why := msg.PutAction(a); plainRightAction(a) || s != "" || why != api.ErrForm {
			t.Errorf("PutAction(%v): %x, error %d", a, s, why)
		}
	}
}

// Whatever a prefix's first two bytes are, and whatever is behind them, it is read just if it is one.
func TestGetPrefixOfAllBeginnings(t *testing.T) {
	r := rand.New(rand.NewSource(112))
	chance := make([]byte, 40)
	r.Read(chance)
	for mark := range 256 {
		for long := range 256 {
			for _, behind := range []string{"", "\x00", strings.Repeat("\x00", 40), strings.Repeat("\xff", 40), string(chance)} {
				s := string([]byte{byte(mark), byte(long)}) + behind
				p, rest, why := msg.GetPrefix(s)
				want := plainBegins(s)
				if want != (why == api.OK) || why == api.OK && (!plainRightPrefix(p) || plainPrefix(p)+rest != s) {
					t.Fatalf("GetPrefix(%x): %v, %x, error %d", s, p, rest, why)
				}
				if why != api.OK && (why != api.ErrCode || p != api.Prefix{} || rest != "") {
					t.Fatalf("GetPrefix(%x): %v, %x, error %d", s, p, rest, why)
				}
			}
		}
	}
}

// plainBegins tells by its bits alone whether s, of two bytes at least, begins with a right prefix's bytes.
func plainBegins(s string) bool {
	wide := map[byte]int{4: 32, 6: 128}[s[0]]
	long := int(s[1])
	if wide == 0 || long > wide || len(s) < 2+(long+7)/8 {
		return false
	}
	for bit := long; bit%8 != 0; bit++ {
		if s[2+bit/8]>>(7-bit%8)&1 == 1 {
			return false
		}
	}
	return true
}

func TestActionsThereAndBack(t *testing.T) {
	for _, a := range rightActions() {
		s, why := msg.PutAction(a)
		if s != plainAction(a) || why != api.OK {
			t.Fatalf("PutAction(%v): %x, error %d, not %x", a, s, why, plainAction(a))
		}
		for _, behind := range behinds() {
			if b, rest, why := msg.GetAction(s + behind); b != a || rest != behind || why != api.OK {
				t.Fatalf("GetAction(%x %x): %v, %x, error %d", s, behind, b, rest, why)
			}
		}
		for cut := range len(s) {
			if b, rest, why := msg.GetAction(s[:cut]); b != (api.Action{}) || rest != "" || why != api.ErrCode {
				t.Fatalf("GetAction(%x): %v, %x, error %d", s[:cut], b, rest, why)
			}
		}
	}
}

func TestGetActionOfAllBeginnings(t *testing.T) {
	for kind := range 256 {
		for next := range 256 {
			s := string([]byte{byte(kind), byte(next)})
			a, rest, why := msg.GetAction(s)
			is := kind == 2 || kind == 3 || kind == 1 && next < 128
			if is != (why == api.OK) || is && (!plainRightAction(a) || plainAction(a)+rest != s) || !is && (why != api.ErrCode || a != api.Action{} || rest != "") {
				t.Fatalf("GetAction(%x): %v, %x, error %d", s, a, rest, why)
			}
		}
	}
	for _, s := range []string{"\x01", "\x01\x80", "\x01\x80\x00", "\x01\x81\x80\x04", "\x01" + plainNum(1<<32), "\x01" + plainNum(1<<63), "\x01" + plainNum(math.MaxUint64), "\x01" + strings.Repeat("\xff", 20)} {
		if a, rest, why := msg.GetAction(s); a != (api.Action{}) || rest != "" || why != api.ErrCode {
			t.Errorf("GetAction(%x): %v, %x, error %d", s, a, rest, why)
		}
	}
}

// 11.3, 11.4, 11.5

func TestThereAndBack(t *testing.T) {
	longest := 0
	for _, e := range events() {
		s, why := msg.Put(e)
		if why != api.OK {
			t.Fatalf("Put(%v): error %d", e, why)
		}
		if f, why := msg.Get(s); f != e || why != api.OK {
			t.Fatalf("Get(%x): %v, error %d, not %v", s, f, why, e)
		}
		longest = max(longest, len(s))
	}
	greatest := api.Event{Kind: api.EventAdd, Router: api.MaxId, Seq: api.MaxSeq, Time: api.MaxTime, Prefix: api.Prefix{Six: true, Addr: most, Len: 128}, Action: api.Action{Kind: api.ActionForward, Iface: api.MaxIface}}
	s, why := msg.Put(greatest)
	if e, no := msg.Get(s); why != api.OK || no != api.OK || e != greatest {
		t.Errorf("the longest body: error %d, read %v, error %d", why, e, no)
	}
	if len(s) < longest || len(s) > api.MaxBody {
		t.Errorf("the longest body has %d bytes, another one %d", len(s), longest)
	}
}

// isBodyOrRefused holds what is read against what it was read from.
func isBodyOrRefused(t *testing.T, s string) {
	t.Helper()
	e, why := msg.Get(s)
	if why != api.OK && (why != api.ErrCode || e != api.Event{}) {
		t.Fatalf("Get(%x): %v, error %d", s, e, why)
	}
	if why == api.OK && (!plainRight(e) || plainBody(e) != s || len(s) > api.MaxBody) {
		t.Fatalf("Get(%x): %v, whose body is another one", s, e)
	}
	p, rest, why := msg.GetPrefix(s)
	if why != api.OK && (why != api.ErrCode || p != api.Prefix{} || rest != "") || why == api.OK && (!plainRightPrefix(p) || plainPrefix(p)+rest != s) {
		t.Fatalf("GetPrefix(%x): %v, %x, error %d", s, p, rest, why)
	}
	a, rest, why := msg.GetAction(s)
	if why != api.OK && (why != api.ErrCode || a != api.Action{} || rest != "") || why == api.OK && (!plainRightAction(a) || plainAction(a)+rest != s) {
		t.Fatalf("GetAction(%x): %v, %x, error %d", s, a, rest, why)
	}
}

func TestBodiesThatAreTurned(t *testing.T) {
	r := rand.New(rand.NewSource(113))
	all := events()
	for range 40000 {
		b := []byte(plainBody(all[r.Intn(len(all))]))
		for range 1 + r.Intn(2) {
			at := r.Intn(len(b))
			switch r.Intn(3) {
			case 0:
				b[at] = byte(r.Intn(256))
			case 1:
				b = slices.Insert(b, at, byte(r.Intn(256)))
			case 2:
				b[at] ^= 1 << r.Intn(8)
			}
		}
		isBodyOrRefused(t, string(b))
	}
}

func TestNoBodyBeginsWithAnother(t *testing.T) {
	for _, e := range events() {
		s := plainBody(e)
		for cut := range len(s) {
			if f, why := msg.Get(s[:cut]); f != (api.Event{}) || why != api.ErrCode {
				t.Fatalf("%x is a body, and so is %x: error %d", s, s[:cut], why)
			}
		}
	}
	l := map[string]api.Event{}
	for _, e := range events()[:1500] {
		s, _ := msg.Put(e)
		if f, is := l[s]; is && f != e {
			t.Fatalf("%v and %v have one body", e, f)
		}
		l[s] = e
		for next := range 256 {
			if f, why := msg.Get(s + string([]byte{byte(next)})); f != (api.Event{}) || why != api.ErrCode {
				t.Fatalf("%x is a body, and so is it with %x behind: error %d", s, next, why)
			}
		}
	}
}

func TestNoPrefixOrActionBeginsWithAnother(t *testing.T) {
	var all []string
	for _, p := range prefixes() {
		s, _ := msg.PutPrefix(p)
		all = append(all, s)
	}
	noneBegins(t, all)
	all = nil
	for _, a := range rightActions() {
		s, _ := msg.PutAction(a)
		all = append(all, s)
	}
	noneBegins(t, all)
}

// noneBegins looks at neighbours alone: sorted, one that begins another is next to such a one.
func noneBegins(t *testing.T, all []string) {
	t.Helper()
	slices.Sort(all)
	all = slices.Compact(all)
	for i, s := range all[1:] {
		if strings.HasPrefix(s, all[i]) {
			t.Errorf("%x begins with %x", s, all[i])
		}
	}
}

func FuzzAnyBytes(f *testing.F) {
	for _, e := range events()[:40] {
		f.Add(plainBody(e))
	}
	f.Add("\x06\x80\x01\x02\x03\x04\x05\x06\x07\x08\x09\x0a\x0b\x0c\x0d\x0e\x0f\x10")
	f.Add("\x01\x81\x80\x04")
	f.Fuzz(isBodyOrRefused)
}

func FuzzAnyEvent(f *testing.F) {
	f.Add(uint8(3), 1, uint64(2), int64(3), false, uint64(0), uint64(10<<24), 8, uint8(1), 7, 0, 0)
	f.Add(uint8(5), 1, uint64(2), int64(3), false, uint64(0), uint64(0), 0, uint8(0), 0, 9, 8)
	f.Fuzz(func(t *testing.T, kind uint8, router int, seq uint64, time int64, six bool, hi, lo uint64, long int, does uint8, out, iface, peer int) {
		p := api.Prefix{Six: six, Addr: api.Addr{Hi: hi, Lo: lo}, Len: long}
		a := api.Action{Kind: api.ActionKind(does), Iface: out}
		asPlain(t, api.Event{Kind: api.EventKind(kind), Router: router, Seq: seq, Time: time, Prefix: p, Action: a, Iface: iface, Peer: peer})
	})
}

// New memory, P1, P3, P4

// share tells whether two texts lie in the same memory, in part at least. (Of single bytes Go itself keeps one copy each.)
func share(a, b string) bool {
	if len(a) < 2 || len(b) < 2 {
		return false
	}
	fromA, fromB := uintptr(unsafe.Pointer(unsafe.StringData(a))), uintptr(unsafe.Pointer(unsafe.StringData(b)))
	return fromA < fromB+uintptr(len(b)) && fromB < fromA+uintptr(len(a))
}

func TestTextsAreNewMemory(t *testing.T) {
	prefix, action := strings.Clone("\x04\x08\x0abehind"), strings.Clone("\x02behind")
	tell := func() []string {
		a, _ := msg.Put(api.Event{Kind: api.EventUp, Router: 1, Seq: 1, Time: 5})
		b, _ := msg.PutPrefix(ten)
		c, _ := msg.PutPrefix(api.Prefix{})
		d, _ := msg.PutAction(api.Action{Kind: api.ActionForward, Iface: 7})
		_, e, _ := msg.GetPrefix(prefix)
		_, f, _ := msg.GetAction(action)
		return []string{a, b, c, d, e, f}
	}
	all := slices.Concat(tell(), tell(), []string{prefix, action})
	for i, a := range all {
		for k, b := range all[:i] {
			if share(a, b) {
				t.Errorf("texts %d and %d share memory", k, i)
			}
		}
	}
}

func TestAnswersHangOnArgumentsAlone(t *testing.T) {
	all := events()
	var first []string
	for _, e := range all {
		s, _ := msg.Put(e)
		first = append(first, s)
	}
	for i, e := range slices.Backward(all) {
		if s, why := msg.Put(e); s != first[i] || why != api.OK {
			t.Fatalf("Put(%v): %x, then %x", e, first[i], s)
		}
		if f, why := msg.Get(strings.Clone(first[i])); f != e || why != api.OK {
			t.Fatalf("Get(%x): %v, error %d", first[i], f, why)
		}
	}
}

func TestNoGoroutineIsLeft(t *testing.T) {
	before := runtime.NumGoroutine()
	for _, e := range events()[:100] {
		msg.Check(e)
		s, _ := msg.Put(e)
		msg.Get(s)
		msg.GetPrefix(s)
		msg.GetAction(s)
		msg.PutPrefix(e.Prefix)
		msg.PutAction(e.Action)
	}
	if after := runtime.NumGoroutine(); after > before {
		t.Errorf("%d goroutines, and %d ahead of the calls", after, before)
	}
}
