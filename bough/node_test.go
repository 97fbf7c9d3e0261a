package bough

import (
	"cmp"
	"math/rand"
	"testing"
)

// checkLevel fails if a size at n or below it is not what it counts, or if a kid is too heavy.
func checkLevel(t *testing.T, n *node[int, int]) int {
	t.Helper()
	if n == nil {
		return 0
	}
	less, more := checkLevel(t, n.kids[low]), checkLevel(t, n.kids[high])
	if n.size != less+more+1 {
		t.Fatalf("the size at %d is %d, with %d and %d below", n.key, n.size, less, more)
	}
	if less+1 > maxHeavier*(more+1) || more+1 > maxHeavier*(less+1) {
		t.Fatalf("at %d one side has %d, the other one %d", n.key, less, more)
	}
	return n.size
}

// Whatever is put in and taken out, no kid becomes too heavy.
func TestLevel(t *testing.T) {
	for seed := range int64(300) {
		chance := rand.New(rand.NewSource(seed))
		b := New[int, int](cmp.Compare[int])
		room := 3 + chance.Intn(120)
		for range 400 {
			k := chance.Intn(room)
			switch chance.Intn(5) {
			case 0, 1:
				b.Put(k, k)
			case 2:
				b.Del(k)
			case 3: // the ends are where sides grow and shrink most
				k, _, _ = b.Nth(0)
				b.Del(k)
			default:
				b.Put(room+chance.Intn(room), k)
			}
			checkLevel(t, b.top)
		}
		for b.Len() > 0 {
			k, _, _ := b.Nth(chance.Intn(b.Len()))
			b.Del(k)
			checkLevel(t, b.top)
		}
	}
}

// A Del of what is not there makes no node anew.
func TestDelOfNothing(t *testing.T) {
	b := New[int, int](cmp.Compare[int])
	for k := range 100 {
		b.Put(2*k, k)
	}
	top := b.top
	for k := range 100 {
		if b.Del(2*k+1) || b.top != top {
			t.Fatalf("Del(%d)", 2*k+1)
		}
	}
}
