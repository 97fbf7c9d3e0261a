package bough_test

import (
	"bytes"
	"cmp"
	"fmt"
	"iter"
	"math"
	"strings"
	"testing"

	"roster/bough"
)

// The chapter's examples, one behind the other.
func TestExamples(t *testing.T) {
	b := bough.New[int, string](byTens)
	if !b.Put(11, "a") || !b.Put(35, "b") || b.Put(19, "c") {
		t.Error("Put")
	}
	c19, b35 := pair[int, string]{19, "c"}, pair[int, string]{35, "b"}
	checkPairs(t, "All", b.All(), []pair[int, string]{c19, b35})
	if v, ok := b.Get(12); v != "c" || !ok || b.Len() != 2 {
		t.Errorf("Get(12) is %q, %v; Len is %d", v, ok, b.Len())
	}
	for k, want := range map[int]int{30: 1, 40: 2, 0: 0} {
		if got := b.Rank(k); got != want {
			t.Errorf("Rank(%d) is %d; want %d", k, got, want)
		}
	}
	if k, v, ok := b.Nth(1); k != 35 || v != "b" || !ok {
		t.Errorf("Nth(1) is %d, %q, %v", k, v, ok)
	}
	if k, v, ok := b.Nth(2); k != 0 || v != "" || ok {
		t.Errorf("Nth(2) is %d, %q, %v", k, v, ok)
	}
	checkPairs(t, "From(20)", b.From(20), []pair[int, string]{b35})
	checkPairs(t, "From(35)", b.From(35), []pair[int, string]{b35})
	checkPairs(t, "UpTo(39)", b.UpTo(39), []pair[int, string]{b35, c19})
	checkPairs(t, "UpTo(9)", b.UpTo(9), nil)
	if !b.Del(12) || b.Del(12) || b.Len() != 1 {
		t.Error("Del")
	}
	checkPairs(t, "All", b.All(), []pair[int, string]{b35})
	checkNil(t, bough.New[int, string](nil), 11, "a")
}

func TestNew(t *testing.T) {
	b := bothOf[int, string](t, byTens, -30, 0, 11)
	if b.it == nil {
		t.Fatal("New is nil")
	}
	b.check()
	b.del(11)
	b.check()
	// Each is one of its own.
	other := bothOf[int, string](t, byTens, -30, 0, 11)
	b.put(11, "a")
	b.check()
	other.check()
}

// checkNil holds all calls of a nil bough against zeros.
func checkNil[K, V comparable](t *testing.T, b *bough.Bough[K, V], k K, v V) {
	t.Helper()
	if b != nil {
		t.Fatal("it is not nil")
	}
	var noKey K
	var noValue V
	for range 2 {
		if b.Put(k, v) || b.Del(k) {
			t.Error("Put or Del is true")
		}
		if got, ok := b.Get(k); got != noValue || ok {
			t.Errorf("Get is %v, %v", got, ok)
		}
		if b.Len() != 0 || b.Rank(k) != 0 || b.Rank(noKey) != 0 {
			t.Errorf("Len is %d, Rank %d", b.Len(), b.Rank(k))
		}
		for _, i := range []int{math.MinInt, -1, 0, 1, math.MaxInt} {
			if key, value, ok := b.Nth(i); key != noKey || value != noValue || ok {
				t.Errorf("Nth(%d) is %v, %v, %v", i, key, value, ok)
			}
		}
		for _, seq := range []iter.Seq2[K, V]{b.From(k), b.UpTo(k), b.All()} {
			if seq == nil {
				t.Fatal("what is to be ranged over is nil")
			}
			checkPairs(t, "of a nil bough", seq, nil)
			checkPairs(t, "of a nil bough again", seq, nil)
		}
	}
}

func TestNil(t *testing.T) {
	checkNil(t, bough.New[int, string](nil), 1, "a")
	checkNil(t, bough.New[string, *int](nil), "a", new(int))
	checkNil(t, bough.New[any, float64](nil), any(3), 1.5)
	checkNil(t, bough.New[[2]string, struct{}](nil), [2]string{"a", "b"}, struct{}{})
	var none func(a, b bool) int
	checkNil(t, bough.New[bool, any](none), true, any("x"))
	var b *bough.Bough[rune, error]
	checkNil(t, b, 'x', fmt.Errorf("x"))
}

// Two boughs of different orders and types: nothing of one shows in the other.
func TestSideBySide(t *testing.T) {
	up := bothOf[int, string](t, cmp.Compare[int], -1, 0, 7, 19, 25, 100)
	down := bothOf[int, string](t, func(a, b int) int { return cmp.Compare(b, a) }, -1, 0, 7, 19, 25, 100)
	tens := bothOf[int, string](t, byTens, -1, 0, 7, 19, 25, 100)
	words := bothOf[string, int](t, strings.Compare, "", "1", "12", "7", "x")
	folded := bothOf[string, float64](t, func(a, b string) int { return strings.Compare(strings.ToLower(a), strings.ToLower(b)) }, "", "A", "a", "b", "C")
	check := func() {
		t.Helper()
		up.check()
		down.check()
		tens.check()
		words.check()
		folded.check()
	}
	for n := range 30 {
		k := n * 7 % 30
		word := fmt.Sprint(k)
		up.put(k, word)
		down.put(-k, word+"!")
		tens.put(k, word+"?")
		words.put(word, k)
		folded.put(strings.Repeat("aAbB"[n%4:n%4+1], k%3), float64(k))
		check()
	}
	for n := range 30 {
		up.del(n)
		check()
		words.del(fmt.Sprint(29 - n))
		tens.del(n)
		check()
		down.del(-n / 2)
		folded.del([]string{"", "A", "b", "aa", "BB"}[n%5])
		check()
	}
}

// Keys of any type, where the order goes by a part of them, and values of any type.
func TestTypes(t *testing.T) {
	type person struct {
		name string
		age  int
	}
	byAge := func(a, b person) int { return cmp.Compare(a.age, b.age) }
	people := bothOf[person, [2]int](t, byAge, person{"q", 0}, person{"x", 30}, person{"y", 31}, person{"", 99})
	for n, p := range []person{{"a", 30}, {"b", 4}, {"c", 30}, {"d", 31}, {"", 4}, {"e", 0}} {
		people.put(p, [2]int{n, -n})
		people.check()
	}
	people.del(person{"nobody", 30})
	people.check()

	all := bothOf[struct{}, any](t, func(a, b struct{}) int { return 0 }, struct{}{})
	all.put(struct{}{}, 1)
	all.put(struct{}{}, "two")
	all.check()
	all.del(struct{}{})
	all.check()

	lengths := bough.New[[]byte, func() int](func(a, b []byte) int { return cmp.Compare(len(a), len(b)) })
	lengths.Put([]byte("ab"), func() int { return 2 })
	lengths.Put(nil, nil)
	f, ok := lengths.Get([]byte("xy"))
	if k, none, yes := lengths.Nth(0); !ok || f() != 2 || !yes || k != nil || none != nil {
		t.Error("functions as values")
	}

	inner := bough.New[string, int](strings.Compare)
	outer := bough.New[string, *bough.Bough[string, int]](strings.Compare)
	outer.Put("inner", inner)
	inner.Put("x", 1)
	if got, _ := outer.Get("inner"); got.Len() != 1 {
		t.Error("a bough of boughs")
	}
}

// Floats in the library's order: +0 and -0 are equal, NaNs too.
func TestFloats(t *testing.T) {
	b := bough.New[float64, int](cmp.Compare[float64])
	for n, f := range []float64{0, 1, math.Inf(-1), math.NaN(), math.Inf(1), -1} {
		if !b.Put(f, n) {
			t.Errorf("Put(%v) is false", f)
		}
	}
	if b.Put(math.Copysign(0, -1), 7) || b.Put(-math.NaN(), 8) || b.Len() != 6 {
		t.Error("Put of equal ones")
	}
	if k, v, ok := b.Nth(3); k != 0 || !math.Signbit(k) || v != 7 || !ok {
		t.Errorf("Nth(3) is %v, %v, %v", k, v, ok)
	}
	if v, ok := b.Get(math.NaN()); v != 8 || !ok || b.Rank(math.NaN()) != 0 || b.Rank(math.Inf(-1)) != 1 {
		t.Errorf("Get of a NaN is %v, %v", v, ok)
	}
	if !b.Del(math.NaN()) || b.Del(math.NaN()) || !b.Del(0) || b.Len() != 4 {
		t.Error("Del")
	}
}

// P12.6: keys and values are handed on as they are, not copied: they have the caller's memory.
func TestHandedOnAsTheyAre(t *testing.T) {
	b := bough.New[[]byte, []int](bytes.Compare)
	key, value := append(make([]byte, 0, 9), "key"...), append(make([]int, 0, 7), 1, 2)
	b.Put([]byte("key"), nil)
	b.Put(key, value)
	same := func(what string, k []byte, v []int) {
		t.Helper()
		if &k[0] != &key[0] || cap(k) != 9 || &v[0] != &value[0] || cap(v) != 7 {
			t.Errorf("%s: other memory", what)
		}
	}
	v, _ := b.Get([]byte("key"))
	same("Get", key, v)
	k, v, _ := b.Nth(0)
	same("Nth", k, v)
	for what, seq := range map[string]iter.Seq2[[]byte, []int]{"All": b.All(), "From": b.From([]byte("a")), "UpTo": b.UpTo([]byte("z"))} {
		for k, v := range seq {
			same(what, k, v)
		}
	}
	value[0] = 9
	if v, _ := b.Get(key); v[0] != 9 || string(key) != "key" {
		t.Errorf("%v, %s", v, key)
	}
	// Empty and nil stay what they were.
	lists := bough.New[int, []int](cmp.Compare[int])
	lists.Put(1, nil)
	lists.Put(2, []int{})
	if one, _ := lists.Get(1); one != nil {
		t.Error("nil became a list")
	}
	if two, _ := lists.Get(2); two == nil {
		t.Error("a list became nil")
	}
}
