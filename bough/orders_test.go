package bough_test

import (
	"cmp"
	"math"
	"math/rand"
	"testing"

	"roster/bough"
)

// Only the sign of what the order tells counts.
func TestSignsAlone(t *testing.T) {
	for _, c := range [][2]int{{math.MinInt, math.MaxInt}, {-1, math.MaxInt}, {math.MinInt, 1}, {-7, 900}, {math.MinInt32, 1 << 40}} {
		order := func(a, b int) int {
			switch {
			case a < b:
				return c[0]
			case a > b:
				return c[1]
			}
			return 0
		}
		b := bothOf[int, int](t, order, rising(64)...)
		for _, k := range inward(30) {
			b.put(2*k+1, k)
		}
		b.check()
		for _, k := range outward(60) {
			b.del(k)
			b.checkAll()
		}
	}
}

// Where cmp is no order, nothing is promised but that every call ends and none panics.
func TestNoOrders(t *testing.T) {
	chance := rand.New(rand.NewSource(3))
	turn := 0
	for name, no := range map[string]func(a, b int) int{
		"always less":    func(a, b int) int { return -1 },
		"always greater": func(a, b int) int { return 1 },
		"by chance":      func(a, b int) int { return chance.Intn(3) - 1 },
		"in turns":       func(a, b int) int { turn++; return turn%3 - 1 },
		"seldom equal":   func(a, b int) int { return chance.Intn(40) - 20 },
		"in a round":     func(a, b int) int { return (a-b+900)%3 - 1 },
		"never equal":    func(a, b int) int { return cmp.Compare(2*a, 2*b+1) },
		"the greatest":   func(a, b int) int { return math.MaxInt - chance.Intn(2) },
		"the least":      func(a, b int) int { return math.MinInt },
		"wrapping":       func(a, b int) int { return a*math.MaxInt32*math.MaxInt16 - b*math.MaxInt32 },
	} {
		b := bough.New[int, int](no)
		for range 3000 {
			k := chance.Intn(900)
			switch chance.Intn(3) {
			case 0:
				b.Del(k)
			default:
				b.Put(k, k)
			}
			b.Get(k)
			if many := b.Len(); many < 0 || b.Rank(k) < 0 || b.Rank(k) > many {
				t.Fatalf("%s: Rank is %d of %d", name, b.Rank(k), many)
			}
			b.Nth(chance.Intn(900) - 10)
		}
		for range 20 {
			k := chance.Intn(900)
			if len(told(b.From(k), -1)) > b.Len() || len(told(b.UpTo(k), -1)) > b.Len() || len(told(b.All(), -1)) != b.Len() {
				t.Errorf("%s: more than there are", name)
			}
		}
	}
}

// A NaN that is not equal to itself makes no order of < and >, but no call panics.
func TestNotEqualToItself(t *testing.T) {
	b := bough.New[float64, int](func(a, b float64) int {
		switch {
		case a < b:
			return -1
		case a == b:
			return 0
		}
		return 1
	})
	for n := range 200 {
		b.Put(math.NaN(), n)
		b.Put(float64(n), n)
		b.Del(math.NaN())
		b.Get(math.NaN())
		b.Rank(math.NaN())
		told(b.From(math.NaN()), -1)
		told(b.UpTo(math.NaN()), -1)
	}
	if len(told(b.All(), -1)) != b.Len() {
		t.Error("All has not Len pairs")
	}
}

// An order that itself asks the bough, or puts pairs there, makes no call panic.
func TestOrderThatCalls(t *testing.T) {
	var b *bough.Bough[int, int]
	depth := 0
	b = bough.New[int, int](func(x, y int) int {
		if depth < 2 {
			depth++
			defer func() { depth-- }()
			b.Len()
			b.Nth(x)
			told(b.All(), 3)
			b.Put(x+y, 0)
			b.Del(y)
		}
		return cmp.Compare(x, y)
	})
	for k := range 60 {
		b.Put(k*37%60, k)
		b.Get(k)
		b.Rank(k)
		told(b.From(k), -1)
		told(b.UpTo(k), -1)
		b.Del(k / 2)
	}
	if len(told(b.All(), -1)) != b.Len() {
		t.Error("All has not Len pairs")
	}
}

// An order that panics in the midst of a call leaves the bough as it was.
func TestOrderThatPanics(t *testing.T) {
	left := -1
	order := func(x, y int) int {
		if left == 0 {
			panic("no more")
		}
		left--
		return cmp.Compare(x, y)
	}
	b := &both[int, int]{t, bough.New[int, int](order), &plain[int, int]{cmp: cmp.Compare[int]}, nil}
	for _, k := range inward(100) {
		b.put(k, k)
	}
	for calls := range 4 {
		for k := -1; k < 101; k++ {
			for _, call := range []func(){func() { b.it.Put(k, -1) }, func() { b.it.Del(k) }} {
				left = calls
				func() {
					defer func() { recover() }()
					call()
					// It needed no more calls: it is done, and the row follows.
					left = -1
					v, there := b.it.Get(k)
					b.row.del(k)
					if there {
						b.row.put(k, v)
					}
				}()
				left = -1
				if b.it.Len() != len(b.row.row) {
					t.Fatalf("Len is %d; want %d", b.it.Len(), len(b.row.row))
				}
			}
		}
		b.checkAll()
	}
}
