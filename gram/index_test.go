package gram_test

import (
	"fmt"
	"math/rand"
	"slices"
	"strings"
	"sync"
	"testing"

	"roster/api"
	"roster/gram"
)

// The chapter's examples of an index, one behind the other.
func TestExamplesOfAnIndex(t *testing.T) {
	x := gram.New()
	abc, ab := gram.Asked([]string{"", "abc", ""}), gram.Asked([]string{"ab", ""})
	x.Put(7, "abc")
	x.Put(9, "xabc")
	finds(t, x, abc, 7, 9)
	finds(t, x, ab, 7)
	if l, e := x.Find(nil); e != api.ErrGrams || len(l) != 0 {
		t.Errorf("Find of none is %v, %v", l, e)
	}
	x.Put(7, "abd")
	x.Drop(7, "abc")
	finds(t, x, abc, 9)
	finds(t, x, ab, 7)
	x.Drop(9, "q")
	if got := x.Count(gramOf('a', 'b', 'c')); got != 1 {
		t.Errorf("Count is %d", got)
	}
}

func TestNew(t *testing.T) {
	x, other := gram.New(), gram.New()
	if x == nil || x == other {
		t.Fatal("New")
	}
	a := gram.Grams("a")
	finds(t, x, a)
	if l, e := x.Find([]uint32{}); e != api.ErrGrams || l != nil {
		t.Errorf("Find of none is %v, %v", l, e)
	}
	x.Put(1, "a")
	finds(t, x, a, 1)
	finds(t, other, a)
	if x.Count(a[0]) != 1 || other.Count(a[0]) != 0 {
		t.Error("Count")
	}
	other.Drop(1, "a")
	finds(t, x, a, 1)
}

func TestNil(t *testing.T) {
	var x *gram.Index
	for range 2 {
		x.Put(1, "abc")
		x.Drop(1, "abc")
		for _, grams := range [][]uint32{nil, {}, {0}, gram.Grams("abc")} {
			if l, e := x.Find(grams); e != api.ErrNil || l != nil {
				t.Errorf("Find(%v) is %v, %v", grams, l, e)
			}
		}
		if x.Count(0) != 0 || x.Count(gram.Grams("abc")[0]) != 0 {
			t.Error("Count is not 0")
		}
	}
}

func TestPutAndDropOfEdges(t *testing.T) {
	b := bothOf(t)
	step := func(do func(id uint64, keys ...string), id uint64, keys ...string) {
		t.Helper()
		do(id, keys...)
		b.check()
	}
	step(b.put, 5, "")
	step(b.drop, 5, "")
	step(b.put, 0, "a", "ab", "abc")
	step(b.put, top, "a", "ab", "\x00", "\xff\xff\xff")
	step(b.put, top-1, "\x00\x00\x00", "\xff")
	step(b.drop, 3, "abc")                // a number that nothing was put under
	step(b.drop, 0, "zzz")                // grams that nothing was put under
	step(b.drop, 0, "abd")                // one of its grams was put by other keys
	step(b.drop, 0, "abd", "abd", "abd")  // more often than it was put
	step(b.put, 0, "abd")                 // counts from 0 on again
	step(b.put, 4, "aaaa", "aaa", "aaaa") // keys that share grams, one twice
	step(b.drop, 4, "aaaa")
	step(b.drop, 4, "aaaaaaa") // the same grams as those of aaa
	step(b.drop, 4, "aa")      // takes the end and the start away, leaves the middle
	step(b.drop, 4, "aaa", "aaa")
	step(b.drop, top, "a", "ab", "\x00", "\xff\xff\xff")
	step(b.put, top, "abc")
}

// A key in which a gram stands twice counts it once.
func TestAGramTwiceInOneKey(t *testing.T) {
	x := gram.New()
	x.Put(1, "abcabc")
	x.Drop(1, "xabcx")
	finds(t, x, []uint32{gramOf('a', 'b', 'c')})
	finds(t, x, []uint32{gramOf('b', 'c', 'a')}, 1)
	x.Put(2, "abc")
	x.Put(2, "abcd")
	x.Drop(2, "abcabcabc")
	finds(t, x, []uint32{gramOf('a', 'b', 'c')}, 2)
}

func TestCountsAreExact(t *testing.T) {
	x := gram.New()
	const many = 70000
	ab := gram.Asked([]string{"ab", ""})
	for range many {
		x.Put(1, "ab")
	}
	for range many - 1 {
		x.Drop(1, "ab")
	}
	finds(t, x, ab, 1)
	x.Drop(1, "ab")
	finds(t, x, ab)
	for range many {
		x.Drop(1, "ab")
	}
	x.Put(1, "ab")
	finds(t, x, ab, 1)
	if x.Count(ab[0]) != 1 {
		t.Error(x.Count(ab[0]))
	}
}

func TestFindOfGrams(t *testing.T) {
	x := gram.New()
	x.Put(9, "abcd")
	x.Put(3, "abc")
	x.Put(3, "bcd")
	x.Put(top, "bcd")
	x.Put(0, "zabcz")
	abc, bcd, lone := gramOf('a', 'b', 'c'), gramOf('b', 'c', 'd'), gramOf('c', 'd', 'e')
	finds(t, x, []uint32{abc}, 0, 3, 9)
	finds(t, x, []uint32{bcd}, 3, 9, top)
	for _, both := range [][]uint32{{abc, bcd}, {bcd, abc}, {bcd, bcd, abc, bcd}, {abc, abc, bcd}} {
		finds(t, x, both, 3, 9)
	}
	for _, none := range [][]uint32{{lone}, {lone, lone}, {abc, lone}, {lone, abc}, {bcd, abc, lone, abc}} {
		finds(t, x, none)
	}
	finds(t, x, []uint32{gramOf('c', 'd', 257), abc}, 3, 9)
	finds(t, x, []uint32{gramOf('c', 'd', 257), abc, gramOf(256, 'a', 'b'), bcd}, 3, 9)
	finds(t, x, []uint32{gramOf('b', 'c', 257), gramOf(256, 'b', 'c')}, 3)
	finds(t, x, slices.Repeat([]uint32{bcd, abc}, 100000), 3, 9)
}

// Numbers that are no grams of anything are grams that nobody has.
func TestNumbersThatAreNoGrams(t *testing.T) {
	x := gram.New()
	for id, key := range []string{"abc", "", "\x00\x00\x00", "\xff\xff\xff", "a"} {
		x.Put(uint64(id), key)
	}
	for _, key := range []string{"abc", "\x00\x00\x00", "\xff\xff\xff", "a"} {
		for _, g := range gram.Grams(key) {
			for _, off := range []uint32{g + 1<<27, g + 1<<31, g | 258, g ^ 1<<8, ^g, 1<<32 - 1} {
				if x.Count(off) != 0 {
					t.Errorf("Count(%d) is %d", off, x.Count(off))
				}
				finds(t, x, []uint32{off})
				finds(t, x, []uint32{g, off})
			}
		}
	}
}

func TestCount(t *testing.T) {
	x := gram.New()
	abc := gramOf('a', 'b', 'c')
	for id := range uint64(1000) {
		x.Put(id*id, fmt.Sprint("abc", id))
		x.Put(id*id, "xxabc")
		if got := x.Count(abc); got != int(id)+1 {
			t.Fatalf("Count is %d; want %d", got, id+1)
		}
	}
	for id := range uint64(1000) {
		x.Drop(id*id, "xxabc")
		if got := x.Count(abc); got != 1000-int(id/2) {
			t.Fatalf("Count is %d; want %d", got, 1000-id/2)
		}
		if id%2 == 1 {
			x.Drop(id*id, "abc")
		}
	}
	if x.Count(abc) != 500 || x.Count(gramOf('a', 'b', 'd')) != 0 || x.Count(0) != 0 || x.Count(1<<32-1) != 0 {
		t.Error("Count")
	}
}

// Scripts of Puts and Drops, by chance, against plain counts.
func TestScripts(t *testing.T) {
	for seed := range int64(30) {
		chance := rand.New(rand.NewSource(seed))
		b := bothOf(t)
		ids := []uint64{0, 1, 2, 7, 1 << 32, top - 1, top}
		keys := []string{"", "a", "aa", "ab", "aba"}
		for range 12 {
			keys = append(keys, textBy(chance, 9))
		}
		for step := range 150 {
			id, key := ids[chance.Intn(len(ids))], keys[chance.Intn(len(keys))]
			if grows := step/40%2 == 0; chance.Intn(4) == 0 != grows {
				b.put(id, key)
			} else {
				b.drop(id, key)
			}
			b.checkFind(gram.Asked([]string{key[:len(key)/2], key[len(key)/2:]}))
			b.checkFind(append(gram.Grams(key), gram.Grams(keys[chance.Intn(len(keys))])...))
			if step%25 == 0 {
				b.check()
			}
		}
		b.check()
	}
}

func TestManyNumbers(t *testing.T) {
	const many = 1 << 16
	x := gram.New()
	key := func(id int) string { return fmt.Sprintf("name %d", id%1000) }
	for n := range many {
		id := n * 40503 % many // all of them, in another order
		x.Put(uint64(id), key(id))
	}
	whole, want := gram.Grams("name 123"), []uint64(nil)
	for id := 123; id < many; id += 1000 {
		want = append(want, uint64(id))
	}
	finds(t, x, whole, want...)
	if got := x.Count(gramOf('n', 'a', 'm')); got != many {
		t.Errorf("Count is %d", got)
	}
	all, e := x.Find(gram.Asked([]string{"name", ""}))
	if e != api.OK || len(all) != many {
		t.Fatalf("%d are found, %v", len(all), e)
	}
	for at, id := range all {
		if uint64(at) != id {
			t.Fatalf("at %d stands %d", at, id)
		}
	}
	for id := range many {
		if id != 777 {
			x.Drop(uint64(id), key(id))
		}
	}
	finds(t, x, gram.Asked([]string{"name", ""}), 777)
}

func TestLongKeys(t *testing.T) {
	x := gram.New()
	long := strings.Repeat("abcdefg", 1<<16)
	x.Put(2, long)
	x.Put(1, long+"h")
	finds(t, x, gram.Asked([]string{"ab", "gabc", ""}), 1, 2)
	finds(t, x, gram.Grams(long+"h"), 1)
	finds(t, x, gram.Grams(long), 2)
	x.Drop(2, long)
	finds(t, x, gram.Asked([]string{"ab", "gabc", ""}), 1)
}

// marked is a list with marked room behind its end, and the whole of it.
func marked[T any](mark T, l ...T) (list, whole []T) {
	whole = append(slices.Clone(l), mark, mark, mark)
	return whole[:len(l)], whole
}

// scribble writes over an answer and over its spare room.
func scribble[T any](mark T, l []T) {
	whole := l[:cap(l)]
	for at := range whole {
		whole[at] = mark
	}
}

func TestListsHandedInAreNotChangedAndNotKept(t *testing.T) {
	b := bothOf(t)
	b.put(1, "abcd")
	b.put(2, "bcde")
	for _, l := range [][]uint32{{9, 3, 3, 1}, {gramOf('b', 'c', 'd'), 0, 0}, {gramOf('c', 'd', 'e'), gramOf('b', 'c', 'd')}, {}} {
		grams, whole := marked(77, l...)
		before := slices.Clone(whole)
		b.checkFind(grams)
		if !slices.Equal(whole, before) {
			t.Errorf("%v became %v", before, whole)
		}
		scribble(5, grams)
		b.check()
	}
	pieces, whole := marked("zz", "cd", "ab", "", "xyz", "abc")
	before := slices.Clone(whole)
	asked := gram.Asked(pieces)
	if !slices.Equal(whole, before) {
		t.Errorf("%v became %v", before, whole)
	}
	clear(whole)
	is(t, "Asked, its pieces changed", asked, askedBy(before[:5])...)
}

func TestAnswersAreNewMemory(t *testing.T) {
	b := bothOf(t)
	b.put(1, "abcd")
	b.put(2, "abcde")
	b.put(3, "bcd")
	pieces := []string{"ab", "bcd", ""}
	asked, again := gram.Asked(pieces), gram.Asked(pieces)
	scribble(1, asked)
	is(t, "Asked", again, askedBy(pieces)...)
	is(t, "Asked later", gram.Asked(pieces), again...)
	grams, others := gram.Grams("abcd"), gram.Grams("abcd")
	scribble(1, grams)
	is(t, "Grams", others, keyGramsBy("abcd")...)
	is(t, "Grams later", gram.Grams("abcd"), others...)
	for _, l := range [][]uint32{again, {gramOf('b', 'c', 'd')}, {gramOf('b', 'c', 'd'), gramOf('c', 'd', 257)}, {4}} {
		first, _ := b.it.Find(l)
		second, _ := b.it.Find(l)
		want := slices.Clone(first)
		scribble(1234567, first)
		if !slices.Equal(second, want) {
			t.Errorf("Find became %v; want %v", second, want)
		}
		b.check()
	}
	// What was found stays as it was, whatever is done later.
	found, _ := b.it.Find(gram.Asked([]string{"ab", ""}))
	b.drop(1, "abcd")
	b.put(7, "abc")
	b.check()
	if !slices.Equal(found, []uint64{1, 2}) {
		t.Errorf("what was found became %v", found)
	}
}

// Asking changes nothing: many may ask at one time, and all are told the same.
func TestManyAskAtOneTime(t *testing.T) {
	x := gram.New()
	for id := range uint64(200) {
		x.Put(id, fmt.Sprint("key ", id%20))
	}
	var group sync.WaitGroup
	for range 8 {
		group.Go(func() {
			for range 50 {
				finds(t, x, gram.Grams("key 7"), 7, 27, 47, 67, 87, 107, 127, 147, 167, 187)
				finds(t, x, gram.Grams("nothing"))
				if x.Count(gramOf('k', 'e', 'y')) != 200 || x.Count(3) != 0 {
					t.Error("Count")
				}
			}
		})
	}
	group.Wait()
}
