package bough_test

import (
	"cmp"
	"math"
	"testing"

	"roster/bough"
)

// Rank of keys below, between, equal to and above those that are there.
func TestRank(t *testing.T) {
	b := bough.New[int, string](byTens)
	for _, k := range []int{95, 11, 52, 34, 71} {
		b.Put(k, "")
	}
	for k, want := range map[int]int{
		math.MinInt / 2: 0, -200: 0, 0: 0, 9: 0, 10: 0, 11: 0, 19: 0, 20: 1, 29: 1, 30: 1, 34: 1, 39: 1, 40: 2, 50: 2, 52: 2, 60: 3, 70: 3, 79: 3, 80: 4, 89: 4, 90: 4, 95: 4, 99: 4, 100: 5, 1000: 5, math.MaxInt / 2: 5,
	} {
		if got := b.Rank(k); got != want {
			t.Errorf("Rank(%d) is %d; want %d", k, got, want)
		}
	}
}

// Nth below 0, at 0, at the last, at Len and far past both ends.
func TestNth(t *testing.T) {
	b := bough.New[int, string](byTens)
	past := func() {
		t.Helper()
		for _, i := range []int{math.MinInt, math.MinInt + 1, math.MinInt32, -2, -1, b.Len(), b.Len() + 1, math.MaxInt32, 1 << 32, math.MaxInt - 1, math.MaxInt} {
			if k, v, ok := b.Nth(i); k != 0 || v != "" || ok {
				t.Errorf("of %d Nth(%d) is %d, %q, %v", b.Len(), i, k, v, ok)
			}
		}
	}
	past()
	for n := range 100 {
		b.Put(10*n*37%1000+n%10, "x")
		past()
	}
	for i := range 100 {
		if k, v, ok := b.Nth(i); k/10 != i || v != "x" || !ok {
			t.Errorf("Nth(%d) is %d, %q, %v", i, k, v, ok)
		}
	}
	if k, _, ok := b.Nth(b.Len() - 1); k/10 != 99 || !ok {
		t.Errorf("the last is %d, %v", k, ok)
	}
}

func TestLen(t *testing.T) {
	const n = 300
	for way, keys := range ways(n) {
		b := bough.New[int, int](cmp.Compare[int])
		for at, k := range keys {
			if b.Len() != at || !b.Put(k, at) || b.Put(k, at+1) || b.Del(-1) || b.Del(n) || b.Len() != at+1 {
				t.Fatalf("%s: behind %d of them Len is %d", way, at+1, b.Len())
			}
		}
		for at, k := range keys {
			if b.Len() != n-at || !b.Del(k) || b.Del(k) {
				t.Fatalf("%s: with %d out Len is %d", way, at+1, b.Len())
			}
		}
		if b.Len() != 0 {
			t.Errorf("%s: Len is %d", way, b.Len())
		}
	}
}

// One pair alone.
func TestOnePair(t *testing.T) {
	b := bothOf[int, string](t, byTens, rising(60)...)
	b.put(34, "a")
	b.check()
	if b.it.Rank(30) != 0 || b.it.Rank(39) != 0 || b.it.Rank(40) != 1 {
		t.Error("Rank")
	}
	checkPairs(t, "From(39)", b.it.From(39), []pair[int, string]{{34, "a"}})
	checkPairs(t, "UpTo(30)", b.it.UpTo(30), []pair[int, string]{{34, "a"}})
	checkPairs(t, "From(40)", b.it.From(40), nil)
	checkPairs(t, "UpTo(29)", b.it.UpTo(29), nil)
	b.del(30)
	b.check()
}
