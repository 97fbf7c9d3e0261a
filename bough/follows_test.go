package bough_test

import (
	"cmp"
	"fmt"
	"math"
	"math/rand"
	"slices"
	"strings"
	"testing"

	"roster/bough"
)

// checkFollows holds P12.5's sentences against a bough's own answers.
func checkFollows[K, V comparable](t *testing.T, b *bough.Bough[K, V], order func(a, b K) int, asks []K) {
	t.Helper()
	all := told(b.All(), -1)
	if b.Len() != len(all) {
		t.Fatalf("Len is %d, All has %d", b.Len(), len(all))
	}
	for i, one := range all {
		if i > 0 && order(all[i-1].key, one.key) >= 0 {
			t.Fatalf("%v ahead of %v", all[i-1].key, one.key)
		}
		if k, v, ok := b.Nth(i); k != one.key || v != one.value || !ok {
			t.Fatalf("Nth(%d) is %v, %v, %v; want %v", i, k, v, ok, one)
		}
		if b.Rank(one.key) != i {
			t.Fatalf("Rank(%v) is %d; want %d", one.key, b.Rank(one.key), i)
		}
		if v, ok := b.Get(one.key); v != one.value || !ok {
			t.Fatalf("Get(%v) is %v, %v; want %v", one.key, v, ok, one.value)
		}
	}
	for _, k := range asks {
		rank := b.Rank(k)
		checkPairs(t, "From", b.From(k), all[rank:])
		if rank < len(all) && order(all[rank].key, k) == 0 {
			rank++
		}
		rest := slices.Clone(all[:rank])
		slices.Reverse(rest)
		checkPairs(t, "UpTo", b.UpTo(k), rest)
	}
}

// All orders of putting in and of taking out of a few pairs, against the plain row, at each step.
func TestAllOrders(t *testing.T) {
	for n := range 6 {
		asks := rising(10*n + 20)
		for _, in := range orders(n) {
			for at, out := range orders(n) {
				b := bothOf[int, int](t, byTens, asks...)
				for v, k := range in {
					b.put(10*k+14, v)
					if at == 0 {
						b.check()
						checkFollows(t, b.it, byTens, asks)
					}
				}
				for _, k := range out {
					b.del(10*k + 17)
					b.checkAll()
				}
			}
		}
	}
}

// Put in all orders, then one is taken out, each one in its turn.
func TestAllOrdersOfSeven(t *testing.T) {
	asks := rising(15)
	for _, in := range orders(7) {
		for out := range 7 {
			b := bothOf[int, int](t, cmp.Compare[int], asks...)
			for v, k := range in {
				b.put(2*k+1, v)
			}
			b.del(2*out + 1)
			b.checkAll()
			if out == in[0] {
				b.check()
			}
		}
	}
}

// Many pairs, put in and taken out in rising, falling and mixed orders, until none is left.
func TestMany(t *testing.T) {
	const n = 700
	for way, in := range ways(n) {
		for wayOut, out := range ways(n) {
			b := bothOf[int, string](t, cmp.Compare[int], -1, 0, 1, n/3, n/2, n-1, n, 2*n)
			for at, k := range in {
				b.put(k, way)
				if at%97 == 0 {
					b.check()
				}
			}
			checkFollows(t, b.it, cmp.Compare[int], b.asks)
			for at, k := range out {
				b.del(k)
				if at%97 == 0 || at > n-20 {
					b.check()
				}
			}
			if b.it.Len() != 0 {
				t.Fatalf("put in %s, taken out %s: %d are left", way, wayOut, b.it.Len())
			}
		}
	}
}

// Very many pairs, where the plain row is known ahead.
func TestVeryMany(t *testing.T) {
	const n = 1 << 17
	for way, in := range ways(n) {
		b := bough.New[int, int](cmp.Compare[int])
		for at, k := range in {
			if !b.Put(2*k, at) {
				t.Fatalf("%s: Put(%d)", way, k)
			}
		}
		checkEvery(t, b, 2, n)
		// Those that four divides stay.
		for _, k := range in {
			if k%2 == 1 && !b.Del(2*k) {
				t.Fatalf("%s: Del(%d)", way, k)
			}
		}
		checkEvery(t, b, 4, n/2)
		for at := n - 1; at >= 0; at-- {
			if got := b.Del(2 * in[at]); got != (in[at]%2 == 0) {
				t.Fatalf("%s: Del(%d) is %v", way, in[at], got)
			}
		}
		checkEvery(t, b, 1, 0)
	}
}

// checkEvery holds a bough against so many keys, 0 and each one step above the last.
func checkEvery(t *testing.T, b *bough.Bough[int, int], step, many int) {
	t.Helper()
	at := 0
	for k, v := range b.All() {
		got, ok := b.Get(k)
		key, value, there := b.Nth(at)
		if k != step*at || got != v || !ok || key != k || value != v || !there || b.Rank(k) != at || b.Rank(k+1) != at+1 {
			t.Fatalf("pair %d: %d %d; Get: %d %v; Nth: %d %d %v; Rank: %d", at, k, v, got, ok, key, value, there, b.Rank(k))
		}
		at++
	}
	if at != many || b.Len() != many {
		t.Fatalf("%d pairs, Len %d; want %d", at, b.Len(), many)
	}
	for _, from := range []int{-1, 0, many / 3, many / 2, many - 1, many} {
		up, down := max(from, 0), min(from, many-1)
		for k := range b.From(step * from) {
			if k != step*up {
				t.Fatalf("From(%d) tells %d; want %d", step*from, k, step*up)
			}
			up++
		}
		for k := range b.UpTo(step * from) {
			if k != step*down {
				t.Fatalf("UpTo(%d) tells %d; want %d", step*from, k, step*down)
			}
			down--
		}
		if up != many || down != -1 {
			t.Fatalf("they end at %d and %d", up, down)
		}
	}
}

// Calls by chance, the bough growing and shrinking again, in several orders, what is ranged over kept for long.
func TestByChance(t *testing.T) {
	for name, order := range map[string]func(a, b int) int{
		"rising": cmp.Compare[int], "falling": func(a, b int) int { return cmp.Compare(b, a) }, "tens": byTens,
		"last digit first": func(a, b int) int { return cmp.Or(cmp.Compare(a%10, b%10), cmp.Compare(a, b)) },
		"two":              func(a, b int) int { return a&1 - b&1 }, "one": func(a, b int) int { return 0 },
		"words": func(a, b int) int { return strings.Compare(fmt.Sprint(a), fmt.Sprint(b)) },
	} {
		chance := rand.New(rand.NewSource(int64(len(name))))
		b := bothOf[int, int](t, order)
		var old []kept
		for step := range 6000 {
			k := chance.Intn(300)
			if grows := step/500%2 == 0; chance.Intn(4) == 0 != grows {
				b.put(k, step)
			} else {
				b.del(k)
			}
			b.checkKey(chance.Intn(320) - 10)
			b.checkNth(chance.Intn(320) - 10)
			if step%200 == 0 {
				b.checkAll()
				checkFollows(t, b.it, order, []int{-3, 0, 9, k, 150, 299, 400})
				old = append(old, keep(b, k, chance.Intn(300))...)
			}
		}
		for _, one := range old {
			checkPairs(t, name, one.seq, one.want)
		}
	}
}

// counted is an order that counts how often it is asked.
func counted(n *int) func(a, b int) int {
	return func(a, b int) int {
		*n++
		return cmp.Compare(a, b)
	}
}

// P12.6: Put and Del ask the order as often as the logarithm of Len grows, however the pairs came in and went.
func TestFewCalls(t *testing.T) {
	const n = 1 << 14
	for way, keys := range ways(n) {
		calls := 0
		b := bough.New[int, int](counted(&calls))
		few := func(what string, k int) {
			t.Helper()
			if most := 2.5*math.Log2(float64(b.Len()+3)) + 2; float64(calls) > most {
				t.Fatalf("%s: %s(%d) of %d pairs asks %d times, more than %v", way, what, k, b.Len(), calls, most)
			}
			calls = 0
		}
		for _, k := range keys {
			b.Put(k, k)
			few("Put", k)
		}
		for _, k := range []int{-1, 0, 1, n / 3, n / 2, n - 1, n} {
			b.Put(k, -k)
			few("Put", k)
			b.Del(k)
			few("Del", k)
			b.Del(k)
			few("Del", k)
			b.Get(k)
			few("Get", k)
			b.Rank(k)
			few("Rank", k)
		}
		// Away from one side, so that the other one stays heavy.
		for k := range n - 50 {
			b.Del(k)
			few("Del", k)
		}
		for k := range n {
			b.Put(n-k, k)
			few("Put", n-k)
			b.Del(k / 3)
			few("Del", k/3)
		}
	}
}

// Going over pairs asks the order no more, once it was called; Len, Nth and All ask it not at all.
func TestGoingAsksNoOrder(t *testing.T) {
	calls := 0
	b := bough.New[int, int](counted(&calls))
	for k := range 1000 {
		b.Put(k, k)
	}
	from, upTo := b.From(100), b.UpTo(900)
	calls = 0
	if len(told(from, -1)) != 900 || len(told(upTo, -1)) != 901 || len(told(b.All(), -1)) != 1000 || b.Len() != 1000 {
		t.Error("pairs")
	}
	if k, _, _ := b.Nth(500); k != 500 || calls != 0 {
		t.Errorf("Nth(500) is %d; the order was asked %d times", k, calls)
	}
}
