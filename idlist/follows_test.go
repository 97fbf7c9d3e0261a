package idlist_test

import (
	"bytes"
	"math"
	"slices"
	"testing"

	"roster/api"
	"roster/idlist"
)

func TestSetsFollow(t *testing.T) {
	lists := append(shortLists(2), someLists()...)
	for _, a := range lists {
		for _, b := range lists {
			union, meet, less := idlist.Union(a, b), idlist.Meet(a, b), idlist.Less(a, b)
			if !idlist.Right(union) || !idlist.Right(meet) || !idlist.Right(less) {
				t.Errorf("%v, %v, %v: one is not right", union, meet, less)
			}
			is(t, "Union the other way", idlist.Union(b, a), union...)
			is(t, "Union of one twice", idlist.Union(b, a, b), union...)
			is(t, "what both have, and the others", idlist.Union(meet, less), setOf(a)...)
			is(t, "Meet the other way", idlist.Meet(b, a), meet...)
			is(t, "Less of Less", idlist.Less(a, less), meet...)
			is(t, "Meet of Less", idlist.Meet(less, b))
		}
	}
}

func TestUnionOfListsInAnyOrder(t *testing.T) {
	some := [][]uint64{{9, 3, 9}, {1, 2, 3}, nil, {top, 0}, {4}}
	want := idlist.Union(some...)
	is(t, "Union", want, 0, 1, 2, 3, 4, 9, top)
	for _, order := range rowsOf([]int{0, 1, 2, 3, 4}, 6) {
		there := map[int]int{}
		var lists [][]uint64
		for _, k := range order {
			there[k]++
			lists = append(lists, some[k])
		}
		if len(there) == len(some) {
			is(t, "Union in another order", idlist.Union(lists...), want...)
		}
	}
}

func TestPutAndDropFollow(t *testing.T) {
	for _, l := range append(shortLists(3), someLists()...) {
		for _, id := range []uint64{0, 1, 5, top} {
			with, without := idlist.Put(l, id), idlist.Drop(l, id)
			if !idlist.Right(with) || !idlist.Right(without) || !idlist.Has(with, id) || idlist.Has(without, id) {
				t.Errorf("Put(%s, %d) = %s, Drop = %s", brief(l), id, brief(with), brief(without))
			}
			is(t, "Put as Union", with, idlist.Union(l, []uint64{id})...)
			is(t, "Drop as Less", without, idlist.Less(l, []uint64{id})...)
		}
	}
}

func TestThereAndBack(t *testing.T) {
	for _, l := range append(shortLists(4), append(someLists(), upTo(20000, 7))...) {
		got, e := idlist.Unpack(idlist.Pack(l))
		if e != api.OK {
			t.Errorf("Unpack(Pack(%s)): %v", brief(l), e)
		}
		is(t, "there and back", got, setOf(l)...)
	}
	taken := 0
	for _, b := range rowsOf([]byte{0x00, 0x01, 0x02, 0x03, 0x80, 0xff}, 6) {
		l, e := idlist.Unpack(b)
		if e != api.OK {
			continue
		}
		taken++
		if back := idlist.Pack(l); !idlist.Right(l) || !bytes.Equal(back, b) {
			t.Errorf("Unpack(% x) = %v, of which % x is Pack", b, l, back)
		}
	}
	if taken < 100 {
		t.Errorf("only %d were taken", taken)
	}
}

func TestSearchedFollows(t *testing.T) {
	for _, l := range append(shortLists(4), someLists()...) {
		if !idlist.Right(l) {
			continue
		}
		for _, id := range []uint64{0, 1, 2, 3, 30, top - 1, top} {
			first := idlist.Find(l, 0, id)
			if got, want := idlist.Has(l, id), first < len(l) && l[first] == id; got != want {
				t.Errorf("Has(%s, %d) = %v, want %v", brief(l), id, got, want)
			}
			for _, from := range []int{math.MinInt, -1, 0, 1, 2, 7, len(l), len(l) + 1, math.MaxInt} {
				want := max(first, min(max(from, 0), len(l)))
				if got := idlist.Find(l, from, id); got != want {
					t.Errorf("Find(%s, %d, %d) = %d, want %d", brief(l), from, id, got, want)
				}
			}
			is(t, "From as what Find leaves", slices.Collect(idlist.From(l, id)), l[first:]...)
		}
	}
}
