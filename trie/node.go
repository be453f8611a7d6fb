package trie

import (
	"iter"
	"sort"

	"spoor/addr"
	"spoor/api"
)

// trie has values by prefixes, whatever they are: each stands under the longest one of the others that covers it. The two kinds of addresses stand apart.
type trie[V any] struct {
	kinds [2]row[V]
}

// row is nodes that have no address in common, by rising addresses.
type row[V any] []node[V]

type node[V any] struct {
	prefix api.Prefix
	value  V
	under  row[V]
}

// kind numbers the kinds of addresses in the order in which their prefixes stand.
func kind(six bool) int {
	if six {
		return 1
	}
	return 0
}

// planted answers the trie of values whose prefixes, as of tells them, are right, and rise.
func planted[V any](l []V, of func(V) api.Prefix) *trie[V] {
	var t trie[V]
	for _, six := range [...]bool{false, true} {
		t.kinds[kind(six)], l = under(api.Prefix{Six: six}, l, of)
	}
	return &t
}

// under takes those values that p covers, and answers the row of them, and the others. All that it covers is in front, since prefixes rise.
func under[V any](p api.Prefix, l []V, of func(V) api.Prefix) (row[V], []V) {
	var r row[V]
	for len(l) > 0 && addr.Covers(p, of(l[0])) {
		n := node[V]{prefix: of(l[0]), value: l[0]}
		n.under, l = under(n.prefix, l[1:], of)
		r = append(r, n)
	}
	return r, l
}

// way tells the values of all prefixes that have an address, the shortest one's first.
func (t *trie[V]) way(six bool, a api.Addr) iter.Seq[V] {
	return func(yield func(V) bool) {
		n, is := t.kinds[kind(six)].over(six, a)
		for is && yield(n.value) {
			n, is = n.under.over(six, a)
		}
	}
}

// over answers the node that has an address, if one does: of those that do not begin behind it that can be but the last one.
func (r row[V]) over(six bool, a api.Addr) (node[V], bool) {
	behind := sort.Search(len(r), func(i int) bool { return addr.Cmp(r[i].prefix.Addr, a) > 0 })
	if behind == 0 || !addr.Has(r[behind-1].prefix, six, a) {
		return node[V]{}, false
	}
	return r[behind-1], true
}
