package idlist_test

import (
	"fmt"
	"math/rand"
	"slices"
	"testing"

	"roster/idlist"
)

func TestRight(t *testing.T) {
	for _, l := range [][]uint64{nil, {}, {0}, {top}, {1, 2, 5}, {0, 1, top}, upTo(5000, 1)} {
		if !idlist.Right(l) {
			t.Errorf("Right(%s) is false", brief(l))
		}
	}
	late := upTo(5000, 1)
	late[4999] = 4998
	for _, l := range [][]uint64{{1, 1}, {2, 1}, {0, 0}, {top, top}, {top, 0}, {1, 2, 2}, {1, 2, 1}, {2, 1, 3}, {1, 1, 2}, late} {
		if idlist.Right(l) {
			t.Errorf("Right(%s) is true", brief(l))
		}
	}
	for _, l := range shortLists(5) {
		if got, want := idlist.Right(l), slices.Equal(l, setOf(l)); got != want {
			t.Errorf("Right(%v) = %v", l, got)
		}
	}
}

func TestSetExamples(t *testing.T) {
	is(t, "Union", idlist.Union([]uint64{1, 3}, []uint64{2, 3}, nil), 1, 2, 3)
	is(t, "Union of no lists", idlist.Union())
	is(t, "Union of a list that is not right", idlist.Union([]uint64{3, 1, 3}), 1, 3)
	is(t, "Meet", idlist.Meet([]uint64{1, 3, 5}, []uint64{3, 4, 5}), 3, 5)
	is(t, "Less", idlist.Less([]uint64{1, 3, 5}, []uint64{3}), 1, 5)
	is(t, "Put", idlist.Put([]uint64{2, 4}, 3), 2, 3, 4)
	is(t, "Put of one that is there", idlist.Put([]uint64{2}, 2), 2)
	is(t, "Drop", idlist.Drop([]uint64{2, 4}, 4), 2)
	is(t, "Drop of one that is not there", idlist.Drop([]uint64{2}, 9), 2)
}

// checkTwo holds the calls with two lists against asking each number.
func checkTwo(t *testing.T, a, b []uint64) {
	t.Helper()
	both := slices.Concat(a, b)
	what := brief(a) + " and " + brief(b)
	is(t, "Union of "+what, idlist.Union(a, b), setOf(both)...)
	is(t, "Meet of "+what, idlist.Meet(a, b), keep(both, func(id uint64) bool { return has(a, id) && has(b, id) })...)
	is(t, "Less of "+what, idlist.Less(a, b), keep(a, func(id uint64) bool { return !has(b, id) })...)
}

func TestTwoShortLists(t *testing.T) {
	lists := shortLists(3)
	for _, a := range lists {
		for _, b := range lists {
			checkTwo(t, a, b)
		}
	}
}

func TestTwoLists(t *testing.T) {
	lists := someLists()
	for _, a := range lists {
		for _, b := range lists {
			checkTwo(t, a, b)
		}
	}
}

func TestListsOfVeryDifferentLengths(t *testing.T) {
	long := upTo(3000, 3)
	for _, short := range [][]uint64{nil, {0}, {1}, {1500}, {1501}, {2997}, {2998}, {top}, {0, 2997}, {0, 1500, 2997, top}, {2999, 0, 2997}} {
		checkTwo(t, long, short)
		checkTwo(t, short, long)
	}
}

func TestUnionOfOneAndOfMany(t *testing.T) {
	for _, l := range shortLists(4) {
		is(t, "Union of "+brief(l), idlist.Union(l), setOf(l)...)
		is(t, "Union of it twice", idlist.Union(l, l), setOf(l)...)
	}
	r := rand.New(rand.NewSource(5))
	lists := someLists()
	for count := range 40 {
		var some [][]uint64
		for range count {
			some = append(some, lists[r.Intn(len(lists))])
		}
		is(t, fmt.Sprintf("Union of %d lists", count), idlist.Union(some...), setOf(slices.Concat(some...))...)
	}
	is(t, "Union of empty lists", idlist.Union(nil, []uint64{}, nil))
	is(t, "Union of no lists, spread", idlist.Union([][]uint64{}...))
}

func TestUnionOfVeryMany(t *testing.T) {
	count := 1 << 15
	lists := make([][]uint64, count)
	for k := range lists {
		lists[k] = []uint64{uint64(count - k), uint64(k)}
	}
	is(t, "Union", idlist.Union(lists...), upTo(uint64(count)+1, 1)...)
}

func TestPutAndDrop(t *testing.T) {
	ids := []uint64{0, 1, 2, 3, top - 2, top - 1, top}
	for _, l := range append(shortLists(4), someLists()...) {
		for _, id := range ids {
			what := fmt.Sprintf("(%s, %d)", brief(l), id)
			is(t, "Put"+what, idlist.Put(l, id), setOf(append(slices.Clone(l), id))...)
			is(t, "Drop"+what, idlist.Drop(l, id), keep(l, func(other uint64) bool { return other != id })...)
		}
	}
}

func TestPutAndDropOneByOne(t *testing.T) {
	r := rand.New(rand.NewSource(6))
	there := map[uint64]int{}
	var l []uint64
	for range 2000 {
		id := uint64(r.Intn(100))
		if r.Intn(2) == 0 {
			l, there[id] = idlist.Put(l, id), 1
		} else {
			l = idlist.Drop(l, id)
			delete(there, id)
		}
		var want []uint64
		for id := range there {
			want = append(want, id)
		}
		is(t, "the list", l, setOf(want)...)
	}
}
