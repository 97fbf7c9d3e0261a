package gram_test

import (
	"math/rand"
	"slices"
	"strings"
	"testing"

	"roster/api"
	"roster/gram"
)

// checkPieces holds P13.5's first sentence against a key and pieces, and says whether the key has them.
func checkPieces(t *testing.T, key string, pieces []string) bool {
	t.Helper()
	if !hasPieces(key, pieces) {
		return false
	}
	grams := gram.Grams(key)
	for _, g := range gram.Asked(pieces) {
		if !slices.Contains(grams, g) {
			t.Fatalf("%q has %q; its grams lack %d", key, pieces, g)
		}
	}
	return true
}

// All short keys with all short pieces.
func TestPiecesOfKeysAreAmongTheirGrams(t *testing.T) {
	short, had := texts("ab", 3), 0
	for _, key := range texts("ab", 6) {
		for _, start := range short {
			for _, end := range short {
				for _, middle := range short {
					for _, pieces := range [][]string{{start, end}, {start, middle, end}, {start, middle, middle, end}} {
						if checkPieces(t, key, pieces) {
							had++
						}
					}
				}
			}
		}
	}
	if had < 10000 {
		t.Errorf("only %d had the pieces", had)
	}
}

// Keys that are laid together of pieces, by chance, with something between them or nothing.
func TestKeysMadeOfPieces(t *testing.T) {
	chance := rand.New(rand.NewSource(5))
	for range 5000 {
		pieces := make([]string, 2+chance.Intn(4))
		var key strings.Builder
		for at := range pieces {
			pieces[at] = textBy(chance, 7)
			if at > 0 {
				key.WriteString(textBy(chance, 3))
			}
			key.WriteString(pieces[at])
		}
		if !checkPieces(t, key.String(), pieces) {
			t.Fatalf("%q has not %q", key.String(), pieces)
		}
	}
}

// Find of Asked has all numbers that have a key with the pieces, found by a plain look at each key.
func TestNoNumberIsMissed(t *testing.T) {
	for seed := range int64(20) {
		chance := rand.New(rand.NewSource(seed))
		x, keys := gram.New(), map[uint64][]string{}
		for range 150 {
			id, key := uint64(chance.Intn(60)), textBy(chance, 12)
			x.Put(id, key)
			keys[id] = append(keys[id], key)
		}
		for range 400 {
			pieces := make([]string, 2+chance.Intn(3))
			for at := range pieces {
				pieces[at] = textBy(chance, 4)
			}
			asked := gram.Asked(pieces)
			found, e := x.Find(asked)
			if len(asked) == 0 {
				if e != api.ErrGrams || len(found) != 0 {
					t.Fatalf("%q: %v, %v", pieces, found, e)
				}
				continue
			}
			for id, all := range keys {
				has := slices.ContainsFunc(all, func(key string) bool { return hasPieces(key, pieces) })
				if has && !slices.Contains(found, id) {
					t.Fatalf("%q: %d is missed, with %q", pieces, id, all)
				}
			}
		}
	}
}

// What is found may have the grams without the pieces: in several keys, in another order, or one over another.
func TestOthersAreFoundToo(t *testing.T) {
	x := gram.New()
	x.Put(1, "abcx")
	x.Put(1, "xbcd")
	x.Put(2, "bcdabc")
	x.Put(3, "abc")
	x.Put(4, "xabcdx")
	finds(t, x, gram.Asked([]string{"", "abcd", ""}), 1, 2, 4)
	finds(t, x, gram.Asked([]string{"", "abc", "bcd", ""}), 1, 2, 4)
	finds(t, x, gram.Asked([]string{"ab", "bc"}), 3)
	finds(t, x, gram.Asked([]string{"abc", "abc"}), 3)
}

// deed is a Put or a Drop.
type deed struct {
	id  uint64
	key string
}

func deedsBy(chance *rand.Rand, many int) []deed {
	all := make([]deed, many)
	for at := range all {
		all[at] = deed{uint64(chance.Intn(6)), textBy(chance, 8)}
		if at > 0 && chance.Intn(3) == 0 {
			all[at] = all[chance.Intn(at)]
		}
	}
	return all
}

// alike holds two indexes against one another in all that can be asked of the grams of these keys.
func alike(t *testing.T, x, y *gram.Index, deeds ...deed) {
	t.Helper()
	for at, d := range deeds {
		grams := gram.Grams(d.key)
		lists := [][]uint32{grams, append(gram.Grams(deeds[at*5%len(deeds)].key), grams...)}
		for _, g := range grams {
			lists = append(lists, []uint32{g})
			if x.Count(g) != y.Count(g) {
				t.Fatalf("Count(%d) is %d and %d", g, x.Count(g), y.Count(g))
			}
		}
		for _, l := range lists {
			one, e := x.Find(l)
			two, f := y.Find(l)
			if e != f || !slices.Equal(one, two) {
				t.Fatalf("Find(%s) is %s, %v and %s, %v", brief(l), brief(one), e, brief(two), f)
			}
		}
	}
}

// P13.6: what is put, and dropped as often, is as if it had not been put, whatever else is there.
func TestPutAndDroppedIsAsIfItHadNotBeenPut(t *testing.T) {
	for seed := range int64(100) {
		chance := rand.New(rand.NewSource(seed))
		kept, gone := deedsBy(chance, chance.Intn(20)), deedsBy(chance, 1+chance.Intn(20))
		x, y := gram.New(), gram.New()
		for _, d := range kept {
			x.Put(d.id, d.key)
		}
		puts := slices.Concat(kept, gone)
		for _, at := range chance.Perm(len(puts)) {
			y.Put(puts[at].id, puts[at].key)
		}
		for _, at := range chance.Perm(len(gone)) {
			y.Drop(gone[at].id, gone[at].key)
		}
		alike(t, x, y, puts...)
		// And it stays so under what comes later.
		for _, d := range kept {
			x.Drop(d.id, d.key)
			y.Drop(d.id, d.key)
			alike(t, x, y, puts...)
		}
		for _, d := range puts {
			for _, g := range gram.Grams(d.key) {
				if y.Count(g) != 0 {
					t.Fatalf("%d have %d still", y.Count(g), g)
				}
			}
		}
	}
}

// P13.6: the order of Puts makes no difference, nor that of Drops behind all Puts, those of what was not put too.
func TestOrderMakesNoDifference(t *testing.T) {
	for seed := range int64(100) {
		chance := rand.New(rand.NewSource(seed))
		puts, drops := deedsBy(chance, 1+chance.Intn(25)), deedsBy(chance, chance.Intn(10))
		for range chance.Intn(10) {
			drops = append(drops, puts[chance.Intn(len(puts))])
		}
		inOrder := gram.New()
		for _, d := range puts {
			inOrder.Put(d.id, d.key)
		}
		for range 5 {
			mixed := gram.New()
			for _, at := range chance.Perm(len(puts)) {
				mixed.Put(puts[at].id, puts[at].key)
			}
			alike(t, inOrder, mixed, puts...)
		}
		dropped := func(order []int) *gram.Index {
			x := gram.New()
			for _, d := range puts {
				x.Put(d.id, d.key)
			}
			for _, at := range order {
				x.Drop(drops[at].id, drops[at].key)
			}
			return x
		}
		all := slices.Concat(puts, drops)
		for range 5 {
			alike(t, dropped(chance.Perm(len(drops))), dropped(chance.Perm(len(drops))), all...)
		}
	}
}
