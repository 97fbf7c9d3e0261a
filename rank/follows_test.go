package rank_test

import (
	"slices"
	"strconv"
	"testing"

	"roster/api"
	"roster/rank"
	"roster/schema"
)

// P22.1 by chance, held against the sorting that looks at every pair; refused ones too.
func TestSortByChance(t *testing.T) {
	s := testSchema(t)
	refused := map[api.Errno]int{}
	for seed := range int64(3000) {
		d := diceOf(seed)
		l, keys := d.records(20), d.any()
		want, e := plainSort(s, l, keys)
		refused[e]++
		if e != api.OK {
			refuses(t, s, l, keys, e)
		} else {
			sorts(t, s, l, keys, want...)
		}
		if t.Failed() {
			t.Fatalf("with the seed %d", seed)
		}
	}
	for _, e := range []api.Errno{api.OK, api.ErrKey, api.ErrLong} {
		if refused[e] < 50 {
			t.Errorf("%v was answered %d times", e, refused[e])
		}
	}
}

func sorted(t *testing.T, s *schema.Schema, l []api.Record, keys []api.SortKey) []int {
	t.Helper()
	places, e := rank.Sort(s, l, keys)
	if e != api.OK {
		t.Fatalf("Sort by %s is %v", brief(keys), e)
	}
	return places
}

// P22.3: each place once, what comes ahead stands ahead, and once more sorted all stay.
func TestOrder(t *testing.T) {
	s := testSchema(t)
	for seed := range int64(300) {
		d := diceOf(seed + 5000)
		l, keys := d.records(40), d.good()
		places := sorted(t, s, l, keys)
		seen := make([]bool, len(l))
		var ordered []api.Record
		for at, place := range places {
			if place < 0 || place >= len(l) || seen[place] {
				t.Fatalf("the places are %d", places)
			}
			seen[place] = true
			for _, ahead := range places[:at] {
				if way := differ(s, l[place], l[ahead], keys); way < 0 || way == 0 && place < ahead {
					t.Fatalf("by %s the place %d stands behind %d: %s", brief(keys), place, ahead, brief(l))
				}
			}
			ordered = append(ordered, l[place])
		}
		if len(places) != len(l) {
			t.Fatalf("of %d records there are %d places", len(l), len(places))
		}
		for at, place := range sorted(t, s, ordered, keys) {
			if place != at {
				t.Fatalf("sorted once more %d stands at %d, by %s: %s", place, at, brief(keys), brief(ordered))
			}
		}
	}
}

// P22.3: the only key turned round turns the records with keys round, but for those that do not differ.
func TestTurnedRound(t *testing.T) {
	s := testSchema(t)
	for seed := range int64(300) {
		d := diceOf(seed + 6000)
		key := keysOf(oneOf(d, goodKeys))[0]
		key.Back = false
		l := make([]api.Record, d.Intn(30))
		for at := range l {
			l[at] = made()
			if d.Intn(5) > 0 {
				l[at] = made(key.Desc + "|" + oneOf(d, someValues))
			}
		}
		front := sorted(t, s, l, []api.SortKey{key})
		key.Back = true
		back := sorted(t, s, l, []api.SortKey{key})
		groups, bare := groupsOf(s, l, key, front)
		slices.Reverse(groups)
		if want := append(slices.Concat(groups...), bare...); !slices.Equal(back, want) {
			t.Fatalf("by %s turned round %d became %d, not %d: %s", brief(key), front, back, want, brief(l))
		}
	}
}

// groupsOf are the places in a row that do not differ, and those without a key.
func groupsOf(s *schema.Schema, l []api.Record, key api.SortKey, places []int) (groups [][]int, bare []int) {
	for _, place := range places {
		_, has := plainKey(s, l[place], key)
		if !has {
			bare = append(bare, place)
			continue
		}
		if last := len(groups) - 1; last >= 0 && differ(s, l[groups[last][0]], l[place], []api.SortKey{key}) == 0 {
			groups[last] = append(groups[last], place)
			continue
		}
		groups = append(groups, []int{place})
	}
	return groups, bare
}

// P22.2 by chance, held against what goes over the numbers one by one.
func TestPageByChance(t *testing.T) {
	cookies := []string{"", "", "0", "01", "+1", "x", "1 "}
	for seed := range int64(3000) {
		d := diceOf(seed + 7000)
		ids := d.ids()
		cookie := strconv.Itoa(d.Intn(len(ids) + 3))
		if d.Intn(4) == 0 {
			cookie = oneOf(d, cookies)
		}
		n := d.Intn(len(ids)+4) - 1
		want, next, e := plainPage(ids, cookie, n)
		if e != api.OK {
			refusesPage(t, ids, cookie, n, e)
		} else {
			pages(t, ids, cookie, n, next, want...)
		}
	}
}

// ids need not rise, and may be there twice.
func (d dice) ids() []uint64 {
	ids := make([]uint64, d.Intn(30))
	for at := range ids {
		ids[at] = d.Uint64() >> d.Intn(64)
	}
	return ids
}

// P22.4: pages of any sizes, one behind the other.
func TestPagesAreTheWhole(t *testing.T) {
	for seed := range int64(500) {
		d := diceOf(seed + 8000)
		ids := d.ids()
		most := 1 + d.Intn(len(ids)+3)
		var all []uint64
		cookie := ""
		for turns := 0; ; turns++ {
			part, next, e := rank.Page(ids, cookie, 1+d.Intn(most))
			if e != api.OK || turns > len(ids) {
				t.Fatalf("Page of %d with %q is %v", ids, cookie, e)
			}
			all = append(all, part...)
			if next == "" {
				break
			}
			if next != strconv.Itoa(len(all)) || len(part) == 0 {
				t.Fatalf("behind %d of %d the next is %q", all, ids, next)
			}
			cookie = next
		}
		if !slices.Equal(all, ids) {
			t.Fatalf("the pages are %d, not %d", all, ids)
		}
	}
}
