package bough

// The sides of a node: all keys at its low side are less than its own, all at its high side greater.
const (
	low = iota
	high
)

// One kid of a node may be at most maxHeavier times as heavy as the other one. A kid that is heavier is turned up alone if what it would leave behind is less than maxInner times as heavy as what it would take along. With these two numbers one turn always mends what one pair more or less does.
const (
	maxHeavier = 3
	maxInner   = 2
)

// node is a pair, and the pairs on both sides of it. No node is changed once it is made: whoever ranges over pairs holds on to the nodes that were there.
type node[K, V any] struct {
	key   K
	value V
	size  int // of it and all below it
	kids  [2]*node[K, V]
}

// sideOf is where a key stands of which the order tells c, held against the node's; c is not 0.
func sideOf(c int) int {
	if c < 0 {
		return low
	}
	return high
}

// many is how many pairs there are at n and below it.
func (n *node[K, V]) many() int {
	if n == nil {
		return 0
	}
	return n.size
}

// weight is one more than many, so that it has a logarithm where there is no node, too.
func (n *node[K, V]) weight() int { return n.many() + 1 }

// with is a new node of n's pair with other kids, the first of them at side.
func (n *node[K, V]) with(side int, kid, other *node[K, V]) *node[K, V] {
	m := &node[K, V]{key: n.key, value: n.value, size: kid.many() + other.many() + 1}
	m.kids[side], m.kids[1-side] = kid, other
	return m
}

// level is a new node of n's pair with other kids, turned where the one at side, which has grown or whose other one has shrunk, is too heavy.
func (n *node[K, V]) level(side int, kid, other *node[K, V]) *node[K, V] {
	if kid.weight() <= maxHeavier*other.weight() {
		return n.with(side, kid, other)
	}
	outer, inner := kid.kids[side], kid.kids[1-side]
	if inner.weight() < maxInner*outer.weight() {
		return kid.with(side, outer, n.with(side, inner, other))
	}
	return inner.with(side, kid.with(side, outer, inner.kids[side]), n.with(side, inner.kids[1-side], other))
}

// put is n with a pair more, or with one in the place of another.
func (n *node[K, V]) put(cmp func(a, b K) int, k K, v V) *node[K, V] {
	if n == nil {
		return &node[K, V]{key: k, value: v, size: 1}
	}
	c := cmp(k, n.key)
	if c == 0 {
		return &node[K, V]{key: k, value: v, size: n.size, kids: n.kids}
	}
	side := sideOf(c)
	return n.level(side, n.kids[side].put(cmp, k, v), n.kids[1-side])
}

// del is n with a pair less, or n itself.
func (n *node[K, V]) del(cmp func(a, b K) int, k K) *node[K, V] {
	if n == nil {
		return nil
	}
	c := cmp(k, n.key)
	if c == 0 {
		return n.without()
	}
	side := sideOf(c)
	old := n.kids[side]
	kid := old.del(cmp, k)
	if kid == old {
		return n
	}
	return n.level(1-side, n.kids[1-side], kid)
}

// without is what is below n, put together. The pair in n's place comes from the heavier side, so neither becomes too heavy.
func (n *node[K, V]) without() *node[K, V] {
	side := low
	if n.kids[high].many() > n.kids[low].many() {
		side = high
	}
	if n.kids[side] == nil {
		return nil
	}
	next, rest := n.kids[side].pluck(1 - side)
	return next.with(side, rest, n.kids[1-side])
}

// pluck is the outmost node at side, and the others without it.
func (n *node[K, V]) pluck(side int) (end, rest *node[K, V]) {
	if n.kids[side] == nil {
		return n, n.kids[1-side]
	}
	end, kid := n.kids[side].pluck(side)
	return end, n.level(1-side, n.kids[1-side], kid)
}
