package addr_test

import (
	"fmt"
	"math"
	"math/big"
	"math/rand"
	"regexp"
	"runtime"
	"strconv"
	"strings"
	"testing"
	"unsafe"

	"spoor/addr"
	"spoor/api"
)

// The calls have the signatures of doc/09-addr.md.
var (
	_ func(bool, api.Addr) bool                            = addr.Right
	_ func(api.Prefix) api.Errno                           = addr.Check
	_ func(api.Addr, api.Addr) int                         = addr.Cmp
	_ func(bool, api.Addr) (api.Addr, api.Errno)           = addr.Next
	_ func(bool, api.Addr) (api.Addr, api.Errno)           = addr.Prev
	_ func(api.Prefix) (api.Addr, api.Errno)               = addr.Last
	_ func(api.Prefix, bool, api.Addr) bool                = addr.Has
	_ func(api.Prefix, api.Prefix) bool                    = addr.Covers
	_ func(api.Prefix) (api.Prefix, api.Prefix, api.Errno) = addr.Halves
	_ func(bool, api.Addr) (string, api.Errno)             = addr.Text
	_ func(string) (bool, api.Addr, api.Errno)             = addr.Parse
	_ func(api.Prefix) (string, api.Errno)                 = addr.Show
	_ func(string) (api.Prefix, api.Errno)                 = addr.Read
)

var kinds = []bool{false, true}

// What follows is plain, by numbers of any size.

func plainWide(six bool) int {
	if six {
		return 128
	}
	return 32
}

func power(n int) *big.Int {
	return new(big.Int).Lsh(big.NewInt(1), uint(n))
}

func number(a api.Addr) *big.Int {
	n := new(big.Int).Mul(power(64), new(big.Int).SetUint64(a.Hi))
	return n.Add(n, new(big.Int).SetUint64(a.Lo))
}

// address is the address of a number from 0 to 2^128 - 1.
func address(n *big.Int) api.Addr {
	hi, lo := new(big.Int).DivMod(n, power(64), new(big.Int))
	return api.Addr{Hi: hi.Uint64(), Lo: lo.Uint64()}
}

func plus(n *big.Int, by int64) *big.Int {
	return new(big.Int).Add(n, big.NewInt(by))
}

func plainRight(six bool, a api.Addr) bool {
	return number(a).Cmp(power(plainWide(six))) < 0
}

// plainMany is how many addresses a prefix has.
func plainMany(p api.Prefix) *big.Int {
	return power(plainWide(p.Six) - p.Len)
}

func plainCheck(p api.Prefix) api.Errno {
	if p.Len < 0 || p.Len > plainWide(p.Six) || !plainRight(p.Six, p.Addr) {
		return api.ErrForm
	}
	if new(big.Int).Mod(number(p.Addr), plainMany(p)).Sign() != 0 {
		return api.ErrForm
	}
	return api.OK
}

// plainEnd is the number behind a right prefix's addresses.
func plainEnd(p api.Prefix) *big.Int {
	return new(big.Int).Add(number(p.Addr), plainMany(p))
}

func plainLast(p api.Prefix) (api.Addr, api.Errno) {
	if plainCheck(p) != api.OK {
		return api.Addr{}, api.ErrForm
	}
	return address(plus(plainEnd(p), -1)), api.OK
}

func plainHas(p api.Prefix, six bool, a api.Addr) bool {
	if plainCheck(p) != api.OK || !plainRight(six, a) || p.Six != six {
		return false
	}
	return number(p.Addr).Cmp(number(a)) <= 0 && number(a).Cmp(plainEnd(p)) < 0
}

func plainCovers(p, q api.Prefix) bool {
	if plainCheck(p) != api.OK || plainCheck(q) != api.OK || p.Six != q.Six {
		return false
	}
	return number(p.Addr).Cmp(number(q.Addr)) <= 0 && plainEnd(q).Cmp(plainEnd(p)) <= 0
}

func plainHalves(p api.Prefix) (api.Prefix, api.Prefix, api.Errno) {
	if plainCheck(p) != api.OK {
		return api.Prefix{}, api.Prefix{}, api.ErrForm
	}
	if plainMany(p).Cmp(big.NewInt(1)) == 0 {
		return api.Prefix{}, api.Prefix{}, api.ErrNone
	}
	half := new(big.Int).Rsh(plainMany(p), 1)
	a := api.Prefix{Six: p.Six, Addr: p.Addr, Len: p.Len + 1}
	b := api.Prefix{Six: p.Six, Addr: address(half.Add(half, number(p.Addr))), Len: p.Len + 1}
	return a, b, api.OK
}

func plainText(six bool, a api.Addr) string {
	if !six {
		return fmt.Sprintf("%d.%d.%d.%d", a.Lo>>24&255, a.Lo>>16&255, a.Lo>>8&255, a.Lo&255)
	}
	return fmt.Sprintf("%x:%x:%x:%x:%x:%x:%x:%x", a.Hi>>48, a.Hi>>32&65535, a.Hi>>16&65535, a.Hi&65535, a.Lo>>48, a.Lo>>32&65535, a.Lo>>16&65535, a.Lo&65535)
}

const (
	byteForm  = `(0|[1-9][0-9]?|1[0-9][0-9]|2[0-4][0-9]|25[0-5])`
	groupForm = `(0|[1-9a-f][0-9a-f]{0,3})`
)

var (
	fourForm = regexp.MustCompile(`\A` + byteForm + `\.` + byteForm + `\.` + byteForm + `\.` + byteForm + `\z`)
	sixForm  = regexp.MustCompile(`\A` + strings.Repeat(groupForm+":", 7) + groupForm + `\z`)
	longForm = regexp.MustCompile(`\A(0|[1-9][0-9]{0,2})\z`)
)

// plainParse reads a text by the forms that the document's words come to.
func plainParse(s string) (bool, api.Addr, api.Errno) {
	six, base, form := false, 10, fourForm
	if strings.Contains(s, ":") {
		six, base, form = true, 16, sixForm
	}
	groups := form.FindStringSubmatch(s)
	if groups == nil {
		return false, api.Addr{}, api.ErrCode
	}
	n := new(big.Int)
	for _, g := range groups[1:] {
		part, _ := new(big.Int).SetString(g, base)
		n.Add(n.Mul(n, power(plainWide(six)/(len(groups)-1))), part)
	}
	return six, address(n), api.OK
}

func plainRead(s string) (api.Prefix, api.Errno) {
	at := strings.LastIndex(s, "/")
	if at < 0 || !longForm.MatchString(s[at+1:]) {
		return api.Prefix{}, api.ErrCode
	}
	many, _ := strconv.Atoi(s[at+1:])
	six, a, why := plainParse(s[:at])
	p := api.Prefix{Six: six, Addr: a, Len: many}
	if why != api.OK || plainCheck(p) != api.OK {
		return api.Prefix{}, api.ErrCode
	}
	return p, api.OK
}

// Samples.

// addresses are those at which something turns, each bit alone, all bits but one, and some by chance; right of IPv4 or not.
func addresses() []api.Addr {
	var l []api.Addr
	for _, hi := range []uint64{0, 1, 2, 0x20010db8 << 32, math.MaxUint64 - 1, math.MaxUint64} {
		for _, lo := range []uint64{0, 1, 2, 9, 10, 99, 100, 255, 256, 10 << 24, 11<<24 - 1, 1 << 31, 1<<32 - 2, 1<<32 - 1, 1 << 32, 1<<32 + 1, math.MaxUint64 - 1, math.MaxUint64} {
			l = append(l, api.Addr{Hi: hi, Lo: lo})
		}
	}
	for i := range 64 {
		l = append(l, api.Addr{Lo: 1 << i}, api.Addr{Hi: 1 << i}, api.Addr{Lo: 1<<i - 1}, api.Addr{Hi: 1<<i - 1, Lo: math.MaxUint64}, api.Addr{Hi: ^uint64(0), Lo: ^uint64(1 << i)})
	}
	r := rand.New(rand.NewSource(9))
	for range 100 {
		l = append(l, api.Addr{Lo: uint64(r.Uint32())}, api.Addr{Hi: r.Uint64(), Lo: r.Uint64()}, api.Addr{Lo: r.Uint64()})
	}
	return l
}

// lens are all that may be, and others.
func lens() []int {
	l := []int{math.MinInt, math.MinInt32, -129, -128, -64, -33, -32, -1, 129, 130, 160, 192, 255, 256, 1 << 20, math.MaxInt32, math.MaxInt - 1, math.MaxInt}
	for i := range 129 {
		l = append(l, i)
	}
	return l
}

// rights are right prefixes: of each length those around some addresses.
func rights(some int) []api.Prefix {
	r := rand.New(rand.NewSource(90))
	var l []api.Prefix
	for _, six := range kinds {
		wide := plainWide(six)
		for long := range wide + 1 {
			for i := range some {
				n := new(big.Int).Rand(r, power(wide))
				switch i {
				case 0:
					n = new(big.Int)
				case 1:
					n = plus(power(wide), -1)
				}
				n.Sub(n, new(big.Int).Mod(n, power(wide-long)))
				l = append(l, api.Prefix{Six: six, Addr: address(n), Len: long})
			}
		}
	}
	return l
}

// prefixes are right ones and others.
func prefixes() []api.Prefix {
	l := rights(3)
	for _, p := range rights(3) {
		q := p
		q.Six = !q.Six
		l = append(l, q)
		for _, by := range []int{-200, -129, -1, 1, 2, 200} {
			q := p
			q.Len += by
			l = append(l, q)
		}
		if p.Addr != (api.Addr{}) {
			q = p
			q.Addr.Lo++
			l = append(l, q)
		}
	}
	return l
}

func four(a, b, c, d uint64) api.Addr {
	return api.Addr{Lo: a<<24 | b<<16 | c<<8 | d}
}

// 9.1

func TestRightIsBelowTwoToWide(t *testing.T) {
	for _, six := range kinds {
		for _, a := range addresses() {
			if got := addr.Right(six, a); got != plainRight(six, a) {
				t.Errorf("Right(%t, %x): %t", six, a, got)
			}
		}
	}
}

func TestRightAtTheEdges(t *testing.T) {
	for _, c := range []struct {
		six  bool
		a    api.Addr
		want bool
	}{
		{false, api.Addr{}, true},
		{false, api.Addr{Lo: 1<<32 - 1}, true},
		{false, api.Addr{Lo: 1 << 32}, false},
		{false, api.Addr{Hi: 1}, false},
		{false, api.Addr{Hi: 1, Lo: 5}, false},
		{true, api.Addr{}, true},
		{true, api.Addr{Lo: 1 << 32}, true},
		{true, api.Addr{Hi: math.MaxUint64, Lo: math.MaxUint64}, true},
	} {
		if got := addr.Right(c.six, c.a); got != c.want {
			t.Errorf("Right(%t, %x): %t", c.six, c.a, got)
		}
	}
}

func TestCheckAsksForAMultiple(t *testing.T) {
	for _, six := range kinds {
		for _, a := range addresses() {
			for _, long := range lens() {
				p := api.Prefix{Six: six, Addr: a, Len: long}
				if got := addr.Check(p); got != plainCheck(p) {
					t.Fatalf("Check(%v): error %d", p, got)
				}
			}
		}
	}
	for _, p := range rights(5) {
		if got := addr.Check(p); got != api.OK {
			t.Fatalf("Check(%v): error %d", p, got)
		}
	}
}

func TestCmpIsOfNumbers(t *testing.T) {
	l := addresses()
	for _, a := range l {
		for _, b := range l {
			if got := addr.Cmp(a, b); got != number(a).Cmp(number(b)) {
				t.Fatalf("Cmp(%x, %x): %d", a, b, got)
			}
		}
	}
}

// stepped is the address by one above (or below) a, by plain numbers.
func stepped(six bool, a api.Addr, by int64) (api.Addr, api.Errno) {
	if !plainRight(six, a) {
		return api.Addr{}, api.ErrForm
	}
	n := plus(number(a), by)
	if n.Sign() < 0 || n.Cmp(power(plainWide(six))) >= 0 {
		return api.Addr{}, api.ErrNone
	}
	return address(n), api.OK
}

func TestNextAndPrevStepByOne(t *testing.T) {
	for _, six := range kinds {
		for _, a := range addresses() {
			want, no := stepped(six, a, 1)
			if got, why := addr.Next(six, a); got != want || why != no {
				t.Errorf("Next(%t, %x): %x, error %d", six, a, got, why)
			}
			want, no = stepped(six, a, -1)
			if got, why := addr.Prev(six, a); got != want || why != no {
				t.Errorf("Prev(%t, %x): %x, error %d", six, a, got, why)
			}
		}
	}
}

func TestNextAndPrevAtTheEdges(t *testing.T) {
	most := uint64(math.MaxUint64)
	for _, c := range []struct {
		six        bool
		a          api.Addr
		next, prev api.Addr
		up, down   api.Errno
	}{
		{false, api.Addr{}, api.Addr{Lo: 1}, api.Addr{}, api.OK, api.ErrNone},
		{true, api.Addr{}, api.Addr{Lo: 1}, api.Addr{}, api.OK, api.ErrNone},
		{false, api.Addr{Lo: 1<<32 - 1}, api.Addr{}, api.Addr{Lo: 1<<32 - 2}, api.ErrNone, api.OK},
		{true, api.Addr{Lo: 1<<32 - 1}, api.Addr{Lo: 1 << 32}, api.Addr{Lo: 1<<32 - 2}, api.OK, api.OK},
		{false, api.Addr{Lo: 1 << 32}, api.Addr{}, api.Addr{}, api.ErrForm, api.ErrForm},
		{false, api.Addr{Hi: most, Lo: most}, api.Addr{}, api.Addr{}, api.ErrForm, api.ErrForm},
		{true, api.Addr{Hi: most, Lo: most}, api.Addr{}, api.Addr{Hi: most, Lo: most - 1}, api.ErrNone, api.OK},
		{true, api.Addr{Lo: most}, api.Addr{Hi: 1}, api.Addr{Lo: most - 1}, api.OK, api.OK},
		{true, api.Addr{Hi: 1}, api.Addr{Hi: 1, Lo: 1}, api.Addr{Lo: most}, api.OK, api.OK},
	} {
		if got, why := addr.Next(c.six, c.a); got != c.next || why != c.up {
			t.Errorf("Next(%t, %x): %x, error %d", c.six, c.a, got, why)
		}
		if got, why := addr.Prev(c.six, c.a); got != c.prev || why != c.down {
			t.Errorf("Prev(%t, %x): %x, error %d", c.six, c.a, got, why)
		}
	}
}

// 9.2

func TestExamples(t *testing.T) {
	last, why := addr.Last(api.Prefix{Addr: four(10, 0, 0, 0), Len: 8})
	if last != four(10, 255, 255, 255) || why != api.OK {
		t.Errorf("Last of 10.0.0.0/8: %x, error %d", last, why)
	}
	if s, why := addr.Text(false, last); s != "10.255.255.255" || why != api.OK {
		t.Errorf("its text: %s, error %d", s, why)
	}
	if s, why := addr.Text(true, api.Addr{Lo: 1}); s != "0:0:0:0:0:0:0:1" || why != api.OK {
		t.Errorf("Text of 1 of IPv6: %s, error %d", s, why)
	}
}

func TestLastIsTheLastOfAll(t *testing.T) {
	for _, p := range prefixes() {
		want, no := plainLast(p)
		if got, why := addr.Last(p); got != want || why != no {
			t.Errorf("Last(%v): %x, error %d", p, got, why)
		}
	}
	for _, long := range lens() {
		p := api.Prefix{Len: long}
		want, no := plainLast(p)
		if got, why := addr.Last(p); got != want || why != no {
			t.Errorf("Last(%v): %x, error %d", p, got, why)
		}
	}
}

// around are addresses at which a prefix may begin to have what it has not, and some others.
func around(p api.Prefix) []api.Addr {
	l := []api.Addr{{}, p.Addr, {Hi: p.Addr.Hi, Lo: p.Addr.Lo + 1}, {Hi: p.Addr.Hi, Lo: p.Addr.Lo - 1}, {Hi: p.Addr.Hi + 1, Lo: p.Addr.Lo}, {Lo: 1<<32 - 1}, {Lo: 1 << 32}, {Hi: math.MaxUint64, Lo: math.MaxUint64}}
	if last, why := plainLast(p); why == api.OK {
		l = append(l, last, address(new(big.Int).Mod(plus(number(last), 1), power(128))))
	}
	return l
}

func TestHasIsBetween(t *testing.T) {
	for _, p := range prefixes() {
		for _, a := range append(around(p), addresses()[:20]...) {
			for _, six := range kinds {
				if got := addr.Has(p, six, a); got != plainHas(p, six, a) {
					t.Fatalf("Has(%v, %t, %x): %t", p, six, a, got)
				}
			}
		}
	}
}

func TestCoversIsWithin(t *testing.T) {
	some := prefixes()
	for i, p := range some {
		l := some[:20]
		for long := i%5 - 1; long < 130; long += 5 {
			l = append(l, api.Prefix{Six: p.Six, Addr: p.Addr, Len: long}, api.Prefix{Six: !p.Six, Addr: p.Addr, Len: long})
		}
		for _, a := range around(p) {
			for _, long := range []int{p.Len - 1, p.Len, p.Len + 1, plainWide(p.Six)} {
				l = append(l, api.Prefix{Six: p.Six, Addr: a, Len: long})
			}
		}
		for _, q := range l {
			if got := addr.Covers(p, q); got != plainCovers(p, q) {
				t.Fatalf("Covers(%v, %v): %t", p, q, got)
			}
			if got := addr.Covers(q, p); got != plainCovers(q, p) {
				t.Fatalf("Covers(%v, %v): %t", q, p, got)
			}
		}
	}
}

func TestHalvesAreOfOneMoreBit(t *testing.T) {
	for _, p := range prefixes() {
		a, b, why := addr.Halves(p)
		if wa, wb, no := plainHalves(p); a != wa || b != wb || why != no {
			t.Errorf("Halves(%v): %v, %v, error %d", p, a, b, why)
		}
	}
	for _, p := range []api.Prefix{{Addr: four(1, 2, 3, 4), Len: 32}, {Six: true, Addr: api.Addr{Hi: 7, Lo: 9}, Len: 128}} {
		if a, b, why := addr.Halves(p); a != (api.Prefix{}) || b != (api.Prefix{}) || why != api.ErrNone {
			t.Errorf("Halves(%v): %v, %v, error %d", p, a, b, why)
		}
	}
}

// 9.3

func TestTextIsTheDocuments(t *testing.T) {
	for _, six := range kinds {
		for _, a := range addresses() {
			got, why := addr.Text(six, a)
			if !plainRight(six, a) {
				if got != "" || why != api.ErrForm {
					t.Errorf("Text(%t, %x): %q, error %d", six, a, got, why)
				}
				continue
			}
			if got != plainText(six, a) || why != api.OK {
				t.Errorf("Text(%t, %x): %q, error %d", six, a, got, why)
			}
		}
	}
}

func TestShowIsTheDocuments(t *testing.T) {
	for _, p := range prefixes() {
		got, why := addr.Show(p)
		if plainCheck(p) != api.OK {
			if got != "" || why != api.ErrForm {
				t.Errorf("Show(%v): %q, error %d", p, got, why)
			}
			continue
		}
		if want := plainText(p.Six, p.Addr) + "/" + fmt.Sprint(p.Len); got != want || why != api.OK {
			t.Errorf("Show(%v): %q, error %d", p, got, why)
		}
	}
}

func TestParseRefuses(t *testing.T) {
	for _, s := range []string{
		"", ".", "...", ":", ":::::::", "::", "::1", "1::", "0", "1.2.3", "1.2.3.", ".1.2.3", "1..2.3", "1.2.3.4.", "1.2.3.4.5", "1.2.3.4:5", "1,2,3,4",
		"256.0.0.0", "0.0.0.256", "1.2.3.1000", "1.2.3.99999999999999999999", "01.2.3.4", "1.2.3.04", "1.2.3.00", "1.2.3.000", "+1.2.3.4", "1.2.3.-4", "1.2.3.-0",
		" 1.2.3.4", "1.2.3.4 ", "1.2.3.4\n", "1.2.3.4\x00", "1. 2.3.4", "a.2.3.4", "1.2.3.f", "0x1.2.3.4", "1_0.2.3.4", "1e1.2.3.4", "١.2.3.4",
		"1.2.3.4/32", "1.2.3.4/", "0:0:0:0:0:0:0", "0:0:0:0:0:0:0:", ":0:0:0:0:0:0:0", "0:0:0::0:0:0:0", "0:0:0:0:0:0:0:0:0", "0:0:0:0:0:0:0:0:", "0:0:0:0:0:0:1.2.3.4",
		"0:0:0:0:0:0:0:10000", "10000:0:0:0:0:0:0:0", "0:0:0:0:0:0:0:01", "0:0:0:0:0:0:0:00", "0000:0:0:0:0:0:0:0", "0:0:0:0:0:0:0:A", "0:0:0:0:0:0:0:fF", "0:0:0:0:0:0:0:g",
		"0:0:0:0:0:0:0:+1", "0:0:0:0:0:0:0:-1", "0:0:0:0:0:0:0:0x1", "0:0:0:0:0:0:0:1_0", "0:0:0:0:0:0:0: 1", "[0:0:0:0:0:0:0:1]", "0:0:0:0:0:0:0:1%a", "0:0:0:0:0:0:0:1/128",
		"0.0.0.0.0.0.0.0", "0:0:0:0", strings.Repeat("0.", 1<<16), strings.Repeat("0:", 1<<16), strings.Repeat("0", 1<<16), strings.Repeat("0", 1<<16) + ".0.0.0", "\xff\xfe",
	} {
		if six, a, why := addr.Parse(s); six || a != (api.Addr{}) || why != api.ErrCode {
			t.Errorf("Parse(%.40q): %t, %x, error %d", s, six, a, why)
		}
	}
}

func TestReadRefuses(t *testing.T) {
	for _, s := range []string{
		"", "/", "/0", "0", "10.0.0.0", "10.0.0.0/", "10.0.0.0/33", "10.0.0.0/128", "10.0.0.0/08", "10.0.0.0/00", "0.0.0.0/00", "0.0.0.0/+0", "0.0.0.0/-0", "10.0.0.0/+8", "10.0.0.0/-8",
		"10.0.0.0/ 8", "10.0.0.0/8 ", "10.0.0.0 /8", "10.0.0.0//8", "10.0.0.0/8/", "10.0.0.0/8/8", "10.0.0.0/0x8", "10.0.0.0/a", "10.0.0.0/8.0", "10.0.0.0/1_6", "10.0.0.0/8\x00",
		"10.0.0.1/8", "10.0.0.0/6", "10.0.0.0/0", "0.0.0.1/31", "255.255.255.255/31", "010.0.0.0/8", "10.0.0/8", "10.0.0.256/32", "10.0.0.0\\8", "10.0.0.0:8",
		"0:0:0:0:0:0:0:0/129", "0:0:0:0:0:0:0:1/127", "0:0:0:0:0:0:0:0/0128", "0:0:0:0:0:0:0:0/1e1", "0:0:0:0:0:0:0:A/128", "::/0", "1:0:0:0:0:0:0:0/15",
		"0.0.0.0/4294967296", "0.0.0.0/18446744073709551616", "0.0.0.0/-18446744073709551616", "0.0.0.0/" + strings.Repeat("0", 1<<16), strings.Repeat("/", 1<<16),
	} {
		if p, why := addr.Read(s); p != (api.Prefix{}) || why != api.ErrCode {
			t.Errorf("Read(%.40q): %v, error %d", s, p, why)
		}
	}
}

// Each text that differs in one byte from an address's or a prefix's is read as what the forms say.
func TestTextsThatAreNearlyRight(t *testing.T) {
	some := []string{
		"0.0.0.0", "1.2.3.4", "10.0.0.0", "255.255.255.255", "99.100.199.200", "0:0:0:0:0:0:0:0", "0:ff:0:0:0:0:0:1", "ffff:ffff:ffff:ffff:ffff:ffff:ffff:ffff", "1:20:300:4000:a:b0:c00:d000",
		"10.0.0.0/8", "0.0.0.0/0", "1.2.3.4/32", "10.128.0.0/9", "0:0:0:0:0:0:0:0/0", "2001:db8:0:0:0:0:0:0/32", "0:0:0:0:0:0:0:1/128", "0:0:0:0:0:0:0:0/100",
	}
	for _, s := range some {
		for at := range len(s) + 1 {
			for _, b := range []byte("0123456789abcfgABFG.:/+-_ x\x00\x80\xff") {
				near(t, s[:at]+string([]byte{b})+s[at:])
				if at < len(s) {
					near(t, s[:at]+string([]byte{b})+s[at+1:])
				}
			}
			if at < len(s) {
				near(t, s[:at]+s[at+1:])
			}
			near(t, s[:at])
			near(t, s[at:])
		}
	}
}

// near holds what is read of a text against the forms.
func near(t *testing.T, s string) {
	t.Helper()
	six, a, why := addr.Parse(s)
	if ws, wa, no := plainParse(s); six != ws || a != wa || why != no {
		t.Fatalf("Parse(%q): %t, %x, error %d", s, six, a, why)
	}
	p, why := addr.Read(s)
	if wp, no := plainRead(s); p != wp || why != no {
		t.Fatalf("Read(%q): %v, error %d", s, p, why)
	}
}

// 9.4

func TestThePrefixesAddressesAreThoseUpToLast(t *testing.T) {
	for _, p := range rights(4) {
		if plainWide(p.Six)-p.Len > 9 {
			continue
		}
		last, why := addr.Last(p)
		if why != api.OK {
			t.Fatalf("Last(%v): error %d", p, why)
		}
		many := 1
		for a := p.Addr; ; many++ {
			if !addr.Has(p, p.Six, a) {
				t.Fatalf("%v has not %x", p, a)
			}
			if a == last {
				break
			}
			a, _ = addr.Next(p.Six, a)
		}
		if many != 1<<(plainWide(p.Six)-p.Len) {
			t.Errorf("%v has %d addresses up to the last one", p, many)
		}
		if a, why := addr.Prev(p.Six, p.Addr); why == api.OK && addr.Has(p, p.Six, a) {
			t.Errorf("%v has %x, which is ahead of it", p, a)
		}
		if a, why := addr.Next(p.Six, last); why == api.OK && addr.Has(p, p.Six, a) {
			t.Errorf("%v has %x, which is behind its last one", p, a)
		}
	}
}

// 9.5

func TestEachAddressIsOfOneHalf(t *testing.T) {
	for _, p := range rights(4) {
		low, high, why := addr.Halves(p)
		if why != api.OK {
			continue
		}
		if !addr.Covers(p, low) || !addr.Covers(p, high) || addr.Covers(low, p) || addr.Covers(high, p) || addr.Covers(low, high) || addr.Covers(high, low) {
			t.Errorf("%v does not cover its halves %v, %v as it should", p, low, high)
		}
		for _, a := range append(around(p), append(around(low), around(high)...)...) {
			in, first, second := addr.Has(p, p.Six, a), addr.Has(low, p.Six, a), addr.Has(high, p.Six, a)
			if in != (first != second) || first && second {
				t.Errorf("%x: of %v %t, of its halves %t, %t", a, p, in, first, second)
			}
		}
	}
}

// 9.6

func TestThereAndBack(t *testing.T) {
	seen := map[string]string{}
	note := func(s, of string) {
		if was, is := seen[s]; is && was != of {
			t.Errorf("%s is the text of %s and of %s", s, was, of)
		}
		seen[s] = of
	}
	for _, six := range kinds {
		for _, a := range addresses() {
			s, why := addr.Text(six, a)
			if why != api.OK {
				continue
			}
			note(s, fmt.Sprint(six, a))
			if ks, ka, why := addr.Parse(s); ks != six || ka != a || why != api.OK {
				t.Errorf("Parse(%s): %t, %x, error %d", s, ks, ka, why)
			}
		}
	}
	for _, p := range prefixes() {
		s, why := addr.Show(p)
		if why != api.OK {
			continue
		}
		note(s, fmt.Sprint(p))
		if q, why := addr.Read(s); q != p || why != api.OK {
			t.Errorf("Read(%s): %v, error %d", s, q, why)
		}
	}
}

// P1, P3, P4

func FuzzTexts(f *testing.F) {
	for _, s := range []string{"", "1.2.3.4", "0:0:0:0:0:0:0:1", "10.0.0.0/8", "2001:db8:0:0:0:0:0:0/32", "1.2.3.4/+8"} {
		f.Add(s)
	}
	f.Fuzz(near)
}

func FuzzPrefixes(f *testing.F) {
	f.Add(false, uint64(0), uint64(10<<24), 8, true, uint64(0), uint64(1), 128)
	f.Add(true, uint64(1), uint64(0), 64, true, uint64(1), uint64(1), 128)
	f.Fuzz(func(t *testing.T, six bool, hi, lo uint64, long int, other bool, hi2, lo2 uint64, long2 int) {
		p := api.Prefix{Six: six, Addr: api.Addr{Hi: hi, Lo: lo}, Len: long}
		q := api.Prefix{Six: other, Addr: api.Addr{Hi: hi2, Lo: lo2}, Len: long2}
		last, why := addr.Last(p)
		if want, no := plainLast(p); addr.Check(p) != no || last != want || why != no {
			t.Errorf("Last(%v): %x, error %d", p, last, why)
		}
		a, b, why := addr.Halves(p)
		if wa, wb, no := plainHalves(p); a != wa || b != wb || why != no {
			t.Errorf("Halves(%v): %v, %v, error %d", p, a, b, why)
		}
		if addr.Has(p, other, q.Addr) != plainHas(p, other, q.Addr) || addr.Covers(p, q) != plainCovers(p, q) {
			t.Errorf("%v: Has or Covers of %v", p, q)
		}
		s, why := addr.Show(p)
		if why != plainCheck(p) || why == api.OK && s != plainText(six, p.Addr)+"/"+fmt.Sprint(long) {
			t.Errorf("Show(%v): %s, error %d", p, s, why)
		}
	})
}

// Two answers of one call share no memory, and none with what was read.
func TestTextsAreNewMemory(t *testing.T) {
	p := api.Prefix{Len: 0}
	for range 3 {
		a, _ := addr.Text(false, p.Addr)
		b, _ := addr.Text(false, p.Addr)
		c, _ := addr.Show(p)
		d, _ := addr.Show(p)
		seen := map[*byte]bool{}
		for _, s := range []string{a, b, c, d} {
			if seen[unsafe.StringData(s)] {
				t.Error("two texts share their bytes")
			}
			seen[unsafe.StringData(s)] = true
		}
	}
}

func TestAnswersAreTheSameAgain(t *testing.T) {
	for _, p := range prefixes()[:500] {
		first, why := addr.Show(p)
		for range 3 {
			if s, no := addr.Show(p); s != first || no != why {
				t.Errorf("Show(%v): %s, then %s", p, first, s)
			}
		}
	}
}

func TestNoGoroutineIsLeft(t *testing.T) {
	was := runtime.NumGoroutine()
	for _, p := range prefixes() {
		addr.Check(p)
		addr.Halves(p)
		addr.Covers(p, p)
		addr.Has(p, true, p.Addr)
		addr.Next(true, p.Addr)
		addr.Prev(true, p.Addr)
		s, _ := addr.Show(p)
		addr.Read(s)
		addr.Parse(s)
	}
	if is := runtime.NumGoroutine(); is > was {
		t.Errorf("%d goroutines, then %d", was, is)
	}
}
