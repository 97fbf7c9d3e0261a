package bough_test

import (
	"cmp"
	"math"
	"strconv"
	"testing"

	"roster/bough"
)

// Put and Del of what is there and of what is not.
func TestPutAndDel(t *testing.T) {
	b := bothOf[int, string](t, cmp.Compare[int], -1, 0, 1, 2, 3, 4, 5, 6, 7, math.MinInt, math.MaxInt)
	b.del(3)
	b.check()
	b.put(3, "three")
	b.check()
	b.put(3, "three")
	b.check()
	b.put(3, "III")
	b.check()
	b.put(1, "one")
	b.put(5, "")
	b.put(0, "zero")
	b.check()
	b.del(2)
	b.check()
	b.del(3)
	b.check()
	b.del(3)
	b.check()
	b.put(3, "again")
	b.check()
	b.put(math.MinInt, "least")
	b.put(math.MaxInt, "greatest")
	b.check()
	for _, k := range []int{0, math.MaxInt, 5, 3, math.MinInt, 1, 1} {
		b.del(k)
		b.check()
	}
	if b.it.Len() != 0 {
		t.Error("it is not empty")
	}
	b.put(4, "four")
	b.check()
}

// What Put and Del tell, without a model beside them.
func TestPutAndDelTell(t *testing.T) {
	b := bough.New[string, int](cmp.Compare[string])
	if b.Del("") || b.Del("a") || !b.Put("a", 1) || !b.Put("", 2) || b.Put("a", 3) || b.Put("a", 3) {
		t.Error("first calls")
	}
	if v, ok := b.Get("a"); v != 3 || !ok {
		t.Errorf("a is %d, %v", v, ok)
	}
	if v, ok := b.Get("b"); v != 0 || ok {
		t.Errorf("b is %d, %v", v, ok)
	}
	if b.Del("b") || !b.Del("a") || b.Del("a") {
		t.Error("Del")
	}
	if v, ok := b.Get("a"); v != 0 || ok {
		t.Errorf("a is %d, %v", v, ok)
	}
	if v, ok := b.Get(""); v != 2 || !ok || b.Len() != 1 {
		t.Errorf("the empty text is %d, %v", v, ok)
	}
}

// A value that is zero is there all the same.
func TestZeroValues(t *testing.T) {
	b := bothOf[int, int](t, cmp.Compare[int], -1, 0, 1)
	b.put(0, 0)
	b.check()
	if v, ok := b.it.Get(0); v != 0 || !ok {
		t.Errorf("Get is %d, %v", v, ok)
	}
	b.put(0, 0)
	b.check()
	b.del(0)
	b.check()
}

// Keys that are equal and not the same: the new one stays, with its value, wherever it stands.
func TestEqualKeys(t *testing.T) {
	for way, keys := range ways(40) {
		b := bothOf[int, string](t, byTens, rising(420)...)
		for _, k := range keys {
			b.put(10*k+3, "first")
		}
		for _, k := range keys {
			b.put(10*k+k%10, strconv.Itoa(k))
			b.checkAll()
		}
		b.check()
		for n, k := range keys {
			if b.it.Len() != 40-n {
				t.Fatalf("%s: Len is %d", way, b.it.Len())
			}
			b.del(10*k + 9)
			b.del(10 * k)
			b.checkAll()
		}
	}
}

// The same Put and Del, called on two boughs that came to their pairs on other ways, do the same.
func TestOnlyThePairsCount(t *testing.T) {
	const n = 200
	for _, keys := range ways(n) {
		a, b := bothOf[int, int](t, cmp.Compare[int]), bothOf[int, int](t, cmp.Compare[int])
		for _, k := range keys {
			a.put(k, k)
			a.put(n+k, k)
			b.put(n-1-k, n-1-k)
		}
		for _, k := range keys {
			a.del(n + k)
		}
		checkPairs(t, "All", a.it.All(), told(b.it.All(), -1))
		a.checkAll()
		b.checkAll()
	}
}
