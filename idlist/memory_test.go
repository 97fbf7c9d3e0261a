package idlist_test

import (
	"bytes"
	"slices"
	"testing"

	"roster/idlist"
)

const mark = 77

// roomy gives a list with marked room behind its end, and the whole of it.
func roomy(l []uint64) (list, whole []uint64) {
	whole = slices.Concat(l, []uint64{mark, mark, mark, mark})
	return whole[:len(l)], whole
}

// scribble writes over an answer and over its spare room.
func scribble(answers ...[]uint64) {
	for _, l := range answers {
		whole := l[:cap(l)]
		for k := range whole {
			whole[k] = 1234567
		}
	}
}

func TestListsAreNotChangedAndNotHandedOut(t *testing.T) {
	lists := append(shortLists(2), [][]uint64{{1, 3, 5}, {5, 3, 1}, {3, 3, 3}, {2, 4, 6, 8}, {1, 2, 3}}...)
	for _, x := range lists {
		for _, y := range lists {
			a, wholeA := roomy(x)
			b, wholeB := roomy(y)
			beforeA, beforeB := slices.Clone(wholeA), slices.Clone(wholeB)
			idlist.Right(a)
			idlist.Find(a, 0, 3)
			idlist.Has(a, 3)
			idlist.Pack(a)
			scribble(slices.Collect(idlist.From(a, 0)))
			scribble(idlist.Union(a), idlist.Union(a, b), idlist.Union(a, b, nil, a), idlist.Meet(a, b), idlist.Less(a, b))
			for _, id := range []uint64{0, 3, top} {
				scribble(idlist.Put(a, id), idlist.Drop(a, id))
			}
			if !slices.Equal(wholeA, beforeA) || !slices.Equal(wholeB, beforeB) {
				t.Fatalf("%v, %v became %v, %v", beforeA, beforeB, wholeA, wholeB)
			}
		}
	}
}

func TestTheListsOfUnionAreNotChanged(t *testing.T) {
	marked := []uint64{mark}
	lists := [][]uint64{{3, 1}, {2}, nil, {2, 5}, marked}
	before := slices.Clone(lists)
	scribble(idlist.Union(lists[:4]...))
	for k := range lists {
		if !slices.Equal(lists[k], before[k]) || len(lists[k]) > 0 && &lists[k][0] != &before[k][0] {
			t.Errorf("list %d became %v", k, lists[k])
		}
	}
}

func TestAnswersDoNotShareMemoryWithOneAnother(t *testing.T) {
	l := []uint64{1, 3, 5}
	other := []uint64{3, 4}
	calls := map[string]func() []uint64{
		"Union": func() []uint64 { return idlist.Union(l, other) },
		"one":   func() []uint64 { return idlist.Union(l) },
		"Meet":  func() []uint64 { return idlist.Meet(l, other) },
		"Less":  func() []uint64 { return idlist.Less(l, other) },
		"Put":   func() []uint64 { return idlist.Put(l, 4) },
		"again": func() []uint64 { return idlist.Put(l, 3) },
		"Drop":  func() []uint64 { return idlist.Drop(l, 3) },
		"lack":  func() []uint64 { return idlist.Drop(l, 4) },
	}
	for what, call := range calls {
		first := call()
		second := call()
		want := slices.Clone(first)
		scribble(first)
		is(t, what, second, want...)
		is(t, what+" later", call(), want...)
	}
}

func TestPacksAreNewMemory(t *testing.T) {
	l := []uint64{5, 6, 300}
	first, second := idlist.Pack(l), idlist.Pack(l)
	clear(first[:cap(first)])
	if !bytes.Equal(second, raw("03 05 00 a5 02")) || !bytes.Equal(idlist.Pack(l), second) {
		t.Errorf("Pack became % x", second)
	}
	whole := append(slices.Clone(second), 0xee, 0xee)
	before := bytes.Clone(whole)
	one, e := idlist.Unpack(whole[:5])
	two, f := idlist.Unpack(whole[:5])
	scribble(one)
	is(t, "Unpack", two, 5, 6, 300)
	if e != 0 || f != 0 || !bytes.Equal(whole, before) {
		t.Errorf("%v, %v, % x", e, f, whole)
	}
	clear(whole)
	is(t, "Unpack, its bytes changed", two, 5, 6, 300)
}
