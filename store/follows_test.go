package store_test

import (
	"fmt"
	"testing"

	"roster/api"
)

// step makes one call by chance; what it answered.
func (b *both) step(d dice) api.Errno {
	b.t.Helper()
	id := oneOf(d, someIds)
	switch d.Intn(10) {
	case 0, 1, 2, 3:
		return b.add(id, d.name(), d.entry())
	case 4, 5:
		return b.delete(id)
	case 6:
		return b.rename(id, d.name())
	}
	return b.modify(id, d.mods()...)
}

// P15.2 to P15.4, P15.6: scripts of calls, refused ones among them, held against a plain store, and against stores made anew in another order.
func TestScripts(t *testing.T) {
	s := testSchema(t)
	seen := map[api.Errno]int{}
	for seed := range int64(40) {
		d := diceOf(s, seed)
		b := bothOf(t, s)
		every := d.every(s)
		for step := range 60 {
			before := shownAll(b.list)
			e := b.step(d)
			seen[e]++
			if e != api.OK && shownAll(b.list) != before {
				t.Fatal("the plain store is another one")
			}
			d.Shuffle(len(every), func(i, j int) { every[i], every[j] = every[j], every[i] })
			if step%10 == 9 {
				b.check(d, every...)
			} else {
				b.check(d, every[:40]...)
			}
		}
		for _, id := range someIds {
			b.delete(id)
		}
		b.check(d, every...)
	}
	for _, e := range []api.Errno{api.OK, api.ErrThere, api.ErrNone, api.ErrType, api.ErrName, api.ErrValue, api.ErrTwice, api.ErrLong, api.ErrClass, api.ErrMust, api.ErrMay, api.ErrHave, api.ErrLack, api.ErrMany, api.ErrMod} {
		if seen[e] == 0 {
			t.Errorf("no script met %v", e)
		}
	}
	if seen[api.OK] < 500 {
		t.Errorf("only %d calls were let be", seen[api.OK])
	}
}

// P15.6: the order in which records are added shows nowhere.
func TestInAnyOrder(t *testing.T) {
	s := testSchema(t)
	d := diceOf(s, 5)
	b := bothOf(t, s)
	for id := uint64(0); b.it.Len() < 30; id++ {
		b.add(id*id*7919%1000, d.name(), d.entry())
	}
	every := d.every(s)
	for range 10 {
		b.check(d, every...)
	}
}

// P15.5, P15.7: stores and their clones, and clones of these, each go on by themselves.
func TestClonesGoOnByThemselves(t *testing.T) {
	s := testSchema(t)
	for seed := range int64(15) {
		d := diceOf(s, seed+100)
		every := d.every(s)
		them := []*both{bothOf(t, s)}
		for range 60 {
			oneOf(d, them).step(d)
			if d.Intn(10) == 0 && len(them) < 6 {
				them = append(them, oneOf(d, them).twin())
			}
			for _, b := range them {
				b.check(d, every[d.Intn(len(every)-5):][:5]...)
			}
		}
		for _, b := range them {
			b.check(d, every...)
		}
	}
}

// P15.7: a row of changes over a store is the same as over its clone, whichever comes first.
func TestSameOverTheClone(t *testing.T) {
	s := testSchema(t)
	for seed := range int64(15) {
		d := diceOf(s, seed+200)
		b := bothOf(t, s)
		for range 40 {
			b.step(d)
		}
		one, two := b.twin(), b.twin()
		row := func(b *both, seed int64) string {
			d := diceOf(s, seed)
			var out []api.Errno
			for range 40 {
				out = append(out, b.step(d))
			}
			for _, q := range d.every(s) {
				out = append(out, api.Errno(b.it.Count(q)))
			}
			return fmt.Sprint(out)
		}
		for _, order := range [][]*both{{one, b, two}, {two, b, one}, {b, two, one}} {
			next := d.Int63()
			first := row(order[0], next)
			for _, b := range order[1:] {
				if got := row(b, next); got != first {
					t.Fatalf("%s; want %s", got, first)
				}
			}
		}
		for _, b := range []*both{one, two, b} {
			b.check(d, d.every(s)...)
		}
	}
}

// P15.5: a clone of an empty store, and of one that becomes empty.
func TestClonesOfEmptyStores(t *testing.T) {
	s := testSchema(t)
	d := diceOf(s, 1)
	every := d.every(s)
	b := bothOf(t, s)
	first := b.twin()
	b.add(1, called("cn=a"), made("objectClass|person", "cn|Ann"))
	second := b.twin()
	b.delete(1)
	third := b.twin()
	third.add(2, called("cn=a"), made("objectClass|person", "cn|Ann"))
	for _, one := range []*both{b, first, second, third} {
		one.check(d, every...)
	}
	if b.it.Len() != 0 || first.it.Len() != 0 || second.it.Len() != 1 || third.it.Len() != 1 {
		t.Error("they are as many as one another")
	}
	finds(t, second.it, equal(tCn, "ann"), 1)
	finds(t, third.it, equal(tCn, "ann"), 2)
}

// P15.7: Get behind a refused call is what it was, and so is all else.
func TestRefusedIsNothing(t *testing.T) {
	s := testSchema(t)
	refused := 0
	for seed := range int64(10) {
		d := diceOf(s, seed+400)
		b := bothOf(t, s)
		every := d.every(s)
		whole := func() string {
			var out []any
			for _, id := range someIds {
				r, e := b.it.Get(id)
				out = append(out, shown(r), e)
			}
			for _, q := range every {
				out = append(out, told(b.it, q))
			}
			return fmt.Sprint(append(out, b.it.Ids(), b.it.Len()))
		}
		before := whole()
		for range 80 {
			e := b.step(d)
			after := whole()
			if e != api.OK && after != before {
				t.Fatalf("%v: %s became %s", e, before, after)
			}
			if e != api.OK {
				refused++
			}
			before = after
		}
	}
	if refused < 200 {
		t.Errorf("only %d were refused", refused)
	}
}
