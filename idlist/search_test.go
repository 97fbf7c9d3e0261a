package idlist_test

import (
	"math"
	"slices"
	"testing"

	"roster/idlist"
)

// findBy looks at one place behind the other.
func findBy(l []uint64, from int, id uint64) int {
	if !slices.Equal(l, setOf(l)) {
		return -1
	}
	for at, number := range l {
		if at >= from && number >= id {
			return at
		}
	}
	return len(l)
}

func TestFindExamples(t *testing.T) {
	l := []uint64{2, 4, 9}
	for _, x := range []struct {
		from int
		id   uint64
		want int
	}{{0, 4, 1}, {0, 5, 2}, {2, 1, 2}, {-7, 10, 3}, {99, 1, 3}} {
		if got := idlist.Find(l, x.from, x.id); got != x.want {
			t.Errorf("Find(%v, %d, %d) = %d, want %d", l, x.from, x.id, got, x.want)
		}
	}
	if got := idlist.Find([]uint64{3, 1}, 0, 1); got != -1 {
		t.Errorf("Find in a list that is not right = %d", got)
	}
	if !idlist.Has([]uint64{3, 1}, 1) {
		t.Error("Has(3 1, 1) is false")
	}
}

func TestFind(t *testing.T) {
	places := []int{math.MinInt, -1, 0, 1, 2, 3, 4, 5, 20, 39, 40, 41, math.MaxInt}
	ids := []uint64{0, 1, 2, 3, 50, top - 2, top - 1, top}
	for _, l := range append(shortLists(4), someLists()...) {
		for _, from := range places {
			for _, id := range ids {
				if got, want := idlist.Find(l, from, id), findBy(l, from, id); got != want {
					t.Errorf("Find(%s, %d, %d) = %d, want %d", brief(l), from, id, got, want)
				}
			}
		}
	}
}

func TestFindInAListThatIsNotRight(t *testing.T) {
	late := append(upTo(5000, 1), 4999)
	for _, l := range [][]uint64{{1, 1}, {2, 1}, {top, 0}, {1, 2, 2}, late} {
		for _, from := range []int{-1, 0, 1, len(l), len(l) + 1} {
			for _, id := range []uint64{0, 1, 2, top} {
				if got := idlist.Find(l, from, id); got != -1 {
					t.Errorf("Find(%s, %d, %d) = %d", brief(l), from, id, got)
				}
			}
		}
	}
}

func TestHas(t *testing.T) {
	for _, l := range append(shortLists(4), someLists()...) {
		for _, id := range []uint64{0, 1, 2, 3, 17, top - 2, top - 1, top} {
			if got, want := idlist.Has(l, id), has(l, id); got != want {
				t.Errorf("Has(%s, %d) = %v", brief(l), id, got)
			}
		}
	}
	long := upTo(3000, 3)
	for id := range uint64(3001) {
		if got, want := idlist.Has(long, id), id < 3000 && id%3 == 0; got != want {
			t.Errorf("Has(%s, %d) = %v", brief(long), id, got)
		}
	}
}

func TestFrom(t *testing.T) {
	is(t, "From(1 3 5, 2)", slices.Collect(idlist.From([]uint64{1, 3, 5}, 2)), 3, 5)
	for _, l := range append(shortLists(4), someLists()...) {
		for _, id := range []uint64{0, 1, 2, 3, 17, top - 1, top} {
			want := keep(l, func(other uint64) bool { return other >= id })
			is(t, "From of "+brief(l), slices.Collect(idlist.From(l, id)), want...)
		}
	}
}

func TestFromIsNeverNil(t *testing.T) {
	for _, l := range [][]uint64{nil, {}, {1}, {2, 1}} {
		walk := idlist.From(l, 3)
		if walk == nil {
			t.Fatalf("From(%v, 3) is nil", l)
		}
		for id := range walk {
			t.Errorf("From(%v, 3) tells %d", l, id)
		}
	}
}

func TestFromIsLeftAndGoneOverAgain(t *testing.T) {
	for _, l := range [][]uint64{{1, 3, 5, 7}, {7, 5, 3, 1, 5}} {
		walk := idlist.From(l, 2)
		for stop := range 3 {
			var seen []uint64
			for id := range walk {
				if seen = append(seen, id); len(seen) > stop {
					break
				}
			}
			is(t, "left early", seen, []uint64{3, 5, 7}[:stop+1]...)
			is(t, "gone over again", slices.Collect(walk), 3, 5, 7)
		}
	}
}

// A walk that is told to stop may tell nothing more: the language would panic.
func TestFromStopsWhenItIsTold(t *testing.T) {
	told := 0
	idlist.From([]uint64{1, 2, 3}, 0)(func(uint64) bool {
		told++
		return false
	})
	if told != 1 {
		t.Errorf("told %d numbers", told)
	}
}

func TestFromIsGoneOverWithinItself(t *testing.T) {
	walk := idlist.From([]uint64{4, 1, 2}, 2)
	var seen []uint64
	for a := range walk {
		for b := range walk {
			seen = append(seen, 10*a+b)
		}
	}
	is(t, "pairs", seen, 22, 24, 42, 44)
}

func TestFromGoesOverWhatWasThereAtTheCall(t *testing.T) {
	for _, l := range [][]uint64{{1, 3, 5}, {5, 3, 1}} {
		walk := idlist.From(l, 2)
		clear(l)
		is(t, "changed ahead of the walk", slices.Collect(walk), 3, 5)
	}
	l := []uint64{1, 3, 5}
	var seen []uint64
	for id := range idlist.From(l, 0) {
		seen = append(seen, id)
		l[1], l[2] = 9, 0
	}
	is(t, "changed within the walk", seen, 1, 3, 5)
}
