package tree_test

import (
	"maps"
	"slices"
	"testing"

	"roster/api"
	"roster/idlist"
	"roster/name"
	"roster/tree"
)

// P21.2 to P21.4: two trees at once, changed by chance, and what a refused call leaves.
func TestCallsByChance(t *testing.T) {
	for seed := range int64(60) {
		d := diceOf(seed)
		one, two := bothOf(t), bothOf(t)
		for range 150 {
			one.step(d)
			two.step(d)
			one.ask(d.place(one.plain))
			two.ask(d.place(two.plain))
		}
		one.check(d)
		two.check(d)
	}
}

// P21.2: behind a refused call everything is as it was.
func TestRefusedChangesNothing(t *testing.T) {
	refused := map[api.Errno]int{}
	for seed := range int64(40) {
		d := diceOf(seed + 100)
		b := bothOf(t)
		for range 60 {
			b.step(d)
		}
		for range 40 {
			was := maps.Clone(b.plain)
			e := anyCall(d, b)
			refused[e]++
			if e != api.OK {
				b.plain = was
				b.check(d)
			}
		}
	}
	for _, e := range []api.Errno{api.ErrName, api.ErrThere, api.ErrParent, api.ErrNone, api.ErrLeaf, api.ErrArg} {
		if refused[e] < 5 {
			t.Errorf("only %d were refused by %v", refused[e], e)
		}
	}
}

// anyCall does a change, to the table too.
func anyCall(d dice, b *both) api.Errno {
	from, to, id := d.place(b.plain), d.place(b.plain), oneOf(d, someIds)
	switch d.Intn(3) {
	case 0:
		b.plain.add(from, id)
		return b.it.Add(keyOf(from), id)
	case 1:
		b.plain.drop(from)
		return b.it.Drop(keyOf(from))
	}
	b.plain.move(from, to)
	return b.it.Move(keyOf(from), keyOf(to))
}

func scopeOf(t *testing.T, it *tree.Tree, key string, scope int8) []uint64 {
	t.Helper()
	ids, e := it.Scope(key, scope)
	if e != api.OK || !idlist.Right(ids) {
		t.Fatalf("Scope(%q, %d) is %d, %v", key, scope, ids, e)
	}
	return ids
}

// P21.5, asked of the tree alone.
func checkKin(t *testing.T, it *tree.Tree) {
	t.Helper()
	every := scopeOf(t, it, "", api.ScSub)
	if len(every) != it.Len() {
		t.Fatalf("%d are there, below the empty key %d", it.Len(), len(every))
	}
	keys := []string{""}
	for _, id := range every {
		key, stands := it.Key(id)
		back, there := it.Id(key)
		if !stands || !there || back != id {
			t.Fatalf("%d stands at %q, where %d is", id, key, back)
		}
		steps := name.Steps(key)
		above := key[:len(key)-len(steps[len(steps)-1])]
		if _, there := it.Id(above); above != "" && !there {
			t.Fatalf("%q is there, but not %q", key, above)
		}
		keys = append(keys, key)
	}
	for _, key := range keys {
		base, one := scopeOf(t, it, key, api.ScBase), scopeOf(t, it, key, api.ScOne)
		sub, kids := scopeOf(t, it, key, api.ScSub), scopeOf(t, it, key, api.ScKids)
		if !slices.Equal(sub, idlist.Union(base, kids)) {
			t.Fatalf("of %q ScSub has %d, ScBase %d, ScKids %d", key, sub, base, kids)
		}
		theirs := [][]uint64{one}
		for _, id := range one {
			kid, _ := it.Key(id)
			theirs = append(theirs, scopeOf(t, it, kid, api.ScKids))
		}
		if !slices.Equal(kids, idlist.Union(theirs...)) {
			t.Fatalf("of %q ScKids has %d, ScOne and theirs %d", key, kids, theirs)
		}
	}
}

// P21.5
func TestKin(t *testing.T) {
	checkKin(t, tree.New())
	for seed := range int64(40) {
		d := diceOf(seed + 200)
		b := bothOf(t)
		for range 60 {
			b.step(d)
			checkKin(t, b.it)
		}
	}
}

// P21.6
func TestMovedThereAndBack(t *testing.T) {
	moves := 0
	for seed := range int64(60) {
		d := diceOf(seed + 300)
		b := bothOf(t)
		for range 80 {
			b.step(d)
		}
		for range 20 {
			from, to := d.place(b.plain), d.place(b.plain)
			was, ids := maps.Clone(b.plain), scopeOf(t, b.it, "", api.ScSub)
			if b.it.Move(keyOf(from), keyOf(to)) != api.OK {
				continue
			}
			moves++
			if !slices.Equal(ids, scopeOf(t, b.it, "", api.ScSub)) {
				t.Fatalf("the Move of %s to %s changed the numbers %d", from, to, ids)
			}
			for letters, id := range was {
				key, there := b.it.Key(id)
				moved := letters == from || name.Lies(keyOf(letters), keyOf(from))
				if !there || (key == keyOf(letters)) == moved {
					t.Fatalf("the Move of %s to %s brought %d from %s to %q", from, to, id, letters, key)
				}
			}
			if e := b.it.Move(keyOf(to), keyOf(from)); e != api.OK {
				t.Fatalf("%s does not come back from %s: %v", from, to, e)
			}
			b.check(d)
		}
	}
	if moves < 100 {
		t.Errorf("only %d moves were made", moves)
	}
}
