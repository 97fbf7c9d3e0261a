package filter_test

import (
	"iter"
	"slices"
	"testing"

	"roster/api"
	"roster/filter"
)

// gone are the items over which items goes, at most so many, with how many parts stand above each.
func gone(items iter.Seq2[int, api.Filter], most int) (out []placed) {
	if most == 0 {
		return nil
	}
	for depth, item := range items {
		if out = append(out, placed{item, depth - 1}); len(out) == most {
			break
		}
	}
	return out
}

func checkItems(t *testing.T, f api.Filter, want []placed) {
	t.Helper()
	items := filter.Items(f)
	same := func(a, b placed) bool { return a.above == b.above && isSame(a.part, b.part) }
	// Whole, left early at each place, and whole again.
	for most := range len(want) + 2 {
		if got := gone(items, most); !slices.EqualFunc(got, want[:min(most, len(want))], same) {
			t.Errorf("the first %d items of %s are %v; want %v", most, shown(f), got, want)
		}
	}
	if got := gone(items, -1); !slices.EqualFunc(got, want, same) {
		t.Errorf("the items of %s are %v; want %v", shown(f), got, want)
	}
}

func TestItems(t *testing.T) {
	a, b, c := equal("cn", "a"), pieces("cn", "a*b*c"), ruleDn("", "caseIgnoreMatch", "c")
	checkItems(t, and(a, not(equal("cn", "b"))), []placed{{a, 1}, {equal("cn", "b"), 2}}) // the chapter's example
	checkItems(t, a, []placed{{a, 0}})
	checkItems(t, not(b), []placed{{b, 1}})
	checkItems(t, or(c, and(b, not(not(a)), c), b), []placed{{c, 1}, {b, 2}, {a, 4}, {c, 2}, {b, 1}})
	checkItems(t, and(a, a, or(a)), []placed{{a, 1}, {a, 1}, {a, 2}})
	checkItems(t, nots(63, a), []placed{{a, 63}})
	for _, f := range []api.Filter{and(), or(a, and()), {Kind: 99}, equal("", "a"), nots(64, a), doubled(16, a), {Kind: api.FNot, Kids: []api.Filter{a, a}}} {
		checkItems(t, f, nil)
	}
}

func TestItemsGreat(t *testing.T) {
	n := 0
	for depth, item := range filter.Items(doubled(15, have("a"))) {
		if depth != 16 || !isSame(item, have("a")) {
			t.Fatalf("%d: %s", depth, shown(item))
		}
		n++
	}
	if n != 1<<15 {
		t.Errorf("%d items", n)
	}
}

func TestItemsRandom(t *testing.T) {
	d := diceOf(t, 7)
	for range 3000 {
		f := d.filter(4)
		checkItems(t, f, modelItems(f))
	}
}

// R9: what is gone over is what was there at the call; what is done to an item that was told shows in no other.
func TestItemsAreThoseOfTheCall(t *testing.T) {
	f := and(pieces("cn", "a*b*c"), not(or(pieces("cn", "a*d*"), have("cn"))))
	want := modelItems(filter.Twin(f))
	items := filter.Items(f)
	f.Kids[1].Kids[0].Kids[0].Middles[0] = "x"
	f.Kids[1].Kids[0].Kids[1] = and()
	f.Kids[0].Middles[0] = ""
	f.Kids[0].Kind = api.FNot
	f.Kids[0] = equal("zz", "z")
	for range 3 {
		at := 0
		for depth, item := range items {
			if depth != want[at].above+1 || !isSame(item, want[at].part) {
				t.Errorf("%d: %s; want %s", depth, shown(item), shown(want[at].part))
			}
			spoil(item)
			at++
		}
		if at != len(want) {
			t.Errorf("%d items", at)
		}
	}
	// One within the other.
	n := 0
	for _, outer := range items {
		for _, inner := range items {
			if isSame(outer, inner) {
				n++
			}
		}
	}
	if n != len(want) {
		t.Errorf("%d are the same", n)
	}
}
