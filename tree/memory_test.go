package tree_test

import (
	"slices"
	"sync"
	"testing"

	"roster/api"
	"roster/tree"
)

// spoil writes over a list, the room behind its end too.
func spoil(ids []uint64) {
	ids = ids[:cap(ids)]
	for at := range ids {
		ids[at] = 1234567
	}
}

// R3: what the caller writes into the lists that Scope tells shows in no later answer.
func TestNothingToldIsKept(t *testing.T) {
	for seed := range int64(20) {
		d := diceOf(seed + 400)
		b := bothOf(t)
		for range 60 {
			b.step(d)
			for letters := range b.plain {
				for scope := int8(0); scope < 4; scope++ {
					ids, _ := b.it.Scope(keyOf(letters), scope)
					spoil(ids)
				}
			}
			ids, _ := b.it.Scope("", api.ScSub)
			spoil(ids)
		}
		b.check(d)
	}
}

// R3: no two lists share memory, the spare room neither; a list stays as it was told.
func TestListsStayAsTheyWereTold(t *testing.T) {
	b := planted(t)
	var told, twins [][]uint64
	for _, letters := range []string{"", "a", "ab", "abc", "x"} {
		for scope := int8(0); scope < 4; scope++ {
			for range 2 {
				ids, _ := b.it.Scope(keyOf(letters), scope)
				told, twins = append(told, ids), append(twins, slices.Clone(ids))
			}
		}
	}
	b.move("ab", "xy")
	b.drop("a")
	for at := range told {
		if !slices.Equal(told[at], twins[at]) {
			t.Fatalf("the list %d became %d", twins[at], told[at])
		}
		spoil(told[at])
	}
	b.check(diceOf(1))
}

// R2: trees in many goroutines answer what they answer alone.
func TestManyTreesAtOnce(t *testing.T) {
	var all sync.WaitGroup
	for seed := range int64(8) {
		all.Go(func() {
			d, it, p := diceOf(seed+500), tree.New(), plain{}
			for range 300 {
				letters, id := d.place(p), oneOf(d, someIds)
				if got, want := it.Add(keyOf(letters), id), p.add(letters, id); got != want {
					t.Errorf("Add(%s, %d) is %v, not %v", letters, id, got, want)
				}
				from, to := d.place(p), d.place(p)
				if got, want := it.Move(keyOf(from), keyOf(to)), p.move(from, to); got != want {
					t.Errorf("Move(%s, %s) is %v, not %v", from, to, got, want)
				}
				got, _ := it.Scope("", api.ScSub)
				if want, _ := p.scope("", api.ScSub); !slices.Equal(got, want) {
					t.Errorf("there are %d, not %d", got, want)
				}
			}
		})
	}
	all.Wait()
}
