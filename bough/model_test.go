package bough_test

import (
	"fmt"
	"iter"
	"math/rand"
	"slices"
	"testing"

	"roster/bough"
)

// pair is a key and its value.
type pair[K, V any] struct {
	key   K
	value V
}

// plain is the pairs as a row in order, gone through from its beginning each time.
type plain[K, V any] struct {
	cmp func(a, b K) int
	row []pair[K, V]
}

// less is how many keys are less than k.
func (p *plain[K, V]) less(k K) int {
	n := 0
	for _, one := range p.row {
		if p.cmp(one.key, k) < 0 {
			n++
		}
	}
	return n
}

// equals is how many keys are equal to k: none or one.
func (p *plain[K, V]) equals(k K) int {
	n := 0
	for _, one := range p.row {
		if p.cmp(one.key, k) == 0 {
			n++
		}
	}
	return n
}

func (p *plain[K, V]) get(k K) (v V, ok bool) {
	if p.equals(k) == 0 {
		return v, false
	}
	return p.row[p.less(k)].value, true
}

func (p *plain[K, V]) put(k K, v V) bool {
	there := p.del(k)
	p.row = slices.Insert(p.row, p.less(k), pair[K, V]{k, v})
	return !there
}

func (p *plain[K, V]) del(k K) bool {
	at, n := p.less(k), p.equals(k)
	p.row = slices.Delete(p.row, at, at+n)
	return n > 0
}

func (p *plain[K, V]) from(k K) []pair[K, V] { return p.row[p.less(k):] }

func (p *plain[K, V]) upTo(k K) []pair[K, V] {
	row := slices.Clone(p.row[:p.less(k)+p.equals(k)])
	slices.Reverse(row)
	return row
}

// both is a bough and the plain row, to which the same is done.
type both[K, V comparable] struct {
	t    *testing.T
	it   *bough.Bough[K, V]
	row  *plain[K, V]
	asks []K // keys of which all is asked
}

func bothOf[K, V comparable](t *testing.T, cmp func(a, b K) int, asks ...K) *both[K, V] {
	return &both[K, V]{t, bough.New[K, V](cmp), &plain[K, V]{cmp: cmp}, asks}
}

func (b *both[K, V]) put(k K, v V) {
	b.t.Helper()
	if got, want := b.it.Put(k, v), b.row.put(k, v); got != want {
		b.t.Fatalf("Put(%v, %v) is %v; want %v", k, v, got, want)
	}
}

func (b *both[K, V]) del(k K) {
	b.t.Helper()
	if got, want := b.it.Del(k), b.row.del(k); got != want {
		b.t.Fatalf("Del(%v) is %v; want %v", k, got, want)
	}
}

// check asks everything.
func (b *both[K, V]) check() {
	b.t.Helper()
	b.checkAll()
	for _, k := range b.asks {
		b.checkKey(k)
	}
}

// checkAll asks what is asked without a key: Len, All, and Nth of each place and of those past the ends.
func (b *both[K, V]) checkAll() {
	b.t.Helper()
	if got := b.it.Len(); got != len(b.row.row) {
		b.t.Fatalf("Len is %d; want %d", got, len(b.row.row))
	}
	checkPairs(b.t, "All", b.it.All(), b.row.row)
	for i := -2; i < len(b.row.row)+2; i++ {
		b.checkNth(i)
	}
}

func (b *both[K, V]) checkNth(i int) {
	b.t.Helper()
	var want pair[K, V]
	there := i >= 0 && i < len(b.row.row)
	if there {
		want = b.row.row[i]
	}
	if k, v, ok := b.it.Nth(i); k != want.key || v != want.value || ok != there {
		b.t.Fatalf("Nth(%d) is %v, %v, %v; want %v, %v", i, k, v, ok, want, there)
	}
}

// checkKey asks what is asked with a key: Get, Rank, From, UpTo.
func (b *both[K, V]) checkKey(k K) {
	b.t.Helper()
	want, there := b.row.get(k)
	if v, ok := b.it.Get(k); v != want || ok != there {
		b.t.Fatalf("Get(%v) is %v, %v; want %v, %v", k, v, ok, want, there)
	}
	if got, want := b.it.Rank(k), b.row.less(k); got != want {
		b.t.Fatalf("Rank(%v) is %d; want %d", k, got, want)
	}
	checkPairs(b.t, fmt.Sprintf("From(%v)", k), b.it.From(k), b.row.from(k))
	checkPairs(b.t, fmt.Sprintf("UpTo(%v)", k), b.it.UpTo(k), b.row.upTo(k))
}

// told is the pairs over which seq goes, at most so many.
func told[K, V any](seq iter.Seq2[K, V], most int) (row []pair[K, V]) {
	if most == 0 {
		return nil
	}
	for k, v := range seq {
		if row = append(row, pair[K, V]{k, v}); len(row) == most {
			break
		}
	}
	return row
}

func checkPairs[K, V comparable](t *testing.T, what string, seq iter.Seq2[K, V], want []pair[K, V]) {
	t.Helper()
	if got := told(seq, -1); !slices.Equal(got, want) {
		t.Fatalf("%s: %s; want %s", what, brief(got), brief(want))
	}
}

// brief tells a row, a long one by its beginning and its length.
func brief[K, V any](row []pair[K, V]) string {
	if len(row) > 12 {
		return fmt.Sprintf("%v.. (%d pairs)", row[:12], len(row))
	}
	return fmt.Sprint(row)
}

// byTens is the chapter's order: 11 and 19 are equal.
func byTens(a, b int) int { return a/10 - b/10 }

// rising is 0, 1, 2 and so on.
func rising(n int) []int {
	row := make([]int, n)
	for i := range row {
		row[i] = i
	}
	return row
}

func falling(n int) []int {
	row := rising(n)
	slices.Reverse(row)
	return row
}

// ways are the numbers below n in rising, falling and mixed orders.
func ways(n int) map[string][]int {
	return map[string][]int{
		"rising":       rising(n),
		"falling":      falling(n),
		"mixed":        rand.New(rand.NewSource(12)).Perm(n),
		"mixed anew":   rand.New(rand.NewSource(13)).Perm(n),
		"from without": inward(n),
		"from within":  outward(n),
	}
}

// inward is the least, the greatest, the next least and so on.
func inward(n int) (row []int) {
	for i := range n {
		if i%2 == 0 {
			row = append(row, i/2)
		} else {
			row = append(row, n-1-i/2)
		}
	}
	return row
}

func outward(n int) []int {
	row := inward(n)
	slices.Reverse(row)
	return row
}

// orders are all orders of the numbers below n.
func orders(n int) [][]int {
	if n == 0 {
		return [][]int{nil}
	}
	var all [][]int
	for _, row := range orders(n - 1) {
		for at := range n {
			all = append(all, slices.Insert(slices.Clone(row), at, n-1))
		}
	}
	return all
}
