package shape_test

import (
	"slices"
	"testing"

	"roster/api"
	"roster/filter"
	"roster/schema"
	"roster/shape"
)

// checkSmaller: n may be, has no more parts than f and is no deeper.
func checkSmaller(t *testing.T, n, f api.Filter) {
	t.Helper()
	_, nodes, depth := filter.Check(f)
	if e, own, deep := filter.Check(n); e != api.OK || own > nodes || deep > depth {
		t.Errorf("%s: %v, %d parts, %d deep; %s has %d, %d", shown(n), e, own, deep, shown(f), nodes, depth)
	}
}

// checkSays: P16.4 and P16.5 of one record.
func checkSays(t *testing.T, s *schema.Schema, f api.Filter, r api.Record) api.Truth {
	t.Helper()
	n, _ := shape.Normal(f)
	rest, some, _ := shape.Bare(s, f)
	says := filter.Says(s, f, r)
	if got := filter.Says(s, n, r); got != says {
		t.Errorf("%s says %d, its normal form %s %d of %v", shown(f), says, shown(n), got, r)
	}
	found := some && filter.Says(s, rest, r) == api.Yes
	if found != (says == api.Yes) {
		t.Errorf("%s says %d, what is left of it (%v) %s %d of %v", shown(f), says, some, shown(rest), filter.Says(s, rest, r), r)
	}
	if some && (!filter.Known(s, rest) || filter.Says(s, rest, r) == api.Unknown) {
		t.Errorf("not all of %s is known", shown(rest))
	}
	return says
}

// P16.4, P16.5: over filters, schemas and records by chance.
func TestSaysTheSame(t *testing.T) {
	d := diceOf(4)
	var counts [3]int
	for range 3000 {
		s := d.schema(t)
		for range 4 {
			f := d.filter(d.items(), 1+d.Intn(6))
			n, _ := shape.Normal(f)
			checkSmaller(t, n, f)
			checkIsNormal(t, n)
			if rest, some, _ := shape.Bare(s, f); some {
				checkSmaller(t, rest, n)
				checkIsNormal(t, rest)
				checkBare(t, s, n, rest)
			}
			for range 5 {
				counts[checkSays(t, s, f, d.record())]++
			}
			if t.Failed() {
				return
			}
		}
	}
	for truth, many := range counts {
		if many < 3000 {
			t.Errorf("%d filters say %d", many, truth)
		}
	}
}

// P16.4, P16.5: all filters of two levels over items that say Yes, No and Unknown.
func TestSaysTheSameTables(t *testing.T) {
	s := testSchema(t)
	r := api.Record{Entry: api.Entry{Attrs: []api.Attr{{Desc: "cn", Values: []string{"x"}}, {Desc: "age", Values: []string{"6"}}}}}
	level := []api.Filter{b, a, u}
	for range 2 {
		next := slices.Concat(level, notAll(level))
		for _, first := range level {
			for _, second := range level {
				next = append(next, and(first, second), or(first, second))
			}
		}
		level = next
	}
	for _, f := range level {
		checkSays(t, s, f, r)
		checkNormal(t, f, modelNormal(f))
	}
}

// otherwise is a filter that has the same normal form: kids mixed, doubled, put within one another, and Nots by two.
func (d dice) otherwise(f api.Filter) api.Filter {
	switch f.Kind {
	case api.FNot:
		return not(d.otherwise(f.Kids[0]))
	case api.FAnd, api.FOr:
	default:
		return nots(2*d.Intn(2), f)
	}
	kids := slices.Clone(f.Kids)
	for range d.Intn(3) {
		kids = append(kids, kids[d.Intn(len(kids))])
	}
	d.Shuffle(len(kids), func(i, j int) { kids[i], kids[j] = kids[j], kids[i] })
	for i, kid := range kids {
		kids[i] = d.otherwise(kid)
	}
	for range d.Intn(3) {
		from := d.Intn(len(kids))
		to := from + 1 + d.Intn(len(kids)-from)
		within := api.Filter{Kind: f.Kind, Kids: slices.Clone(kids[from:to])}
		kids = slices.Concat(kids[:from], []api.Filter{within}, kids[to:])
	}
	return nots(2*d.Intn(2), api.Filter{Kind: f.Kind, Kids: kids})
}

// P16.6.
func TestNormalHangsOnNoOrder(t *testing.T) {
	d := diceOf(5)
	s := testSchema(t)
	for range 10000 {
		f := d.filter(d.items(), 1+d.Intn(5))
		n, _ := shape.Normal(f)
		rest, some, _ := shape.Bare(s, f)
		for range 3 {
			other := d.otherwise(f)
			checkNormal(t, other, n)
			if some {
				checkBare(t, s, other, rest)
			} else {
				checkNothing(t, s, other)
			}
		}
		notF, _ := shape.Normal(not(f))
		checkNormal(t, not(n), notF)
		checkNormal(t, not(notF), n)
		checkNormal(t, not(not(f)), n)
		if t.Failed() {
			return
		}
	}
}

// P16.6: all orders of four kids, and all ways in which they stand in Ands or Ors, two by two.
func TestNormalAllOrders(t *testing.T) {
	for _, of := range []func(...api.Filter) api.Filter{and, or} {
		other := or
		if of(a).Kind == api.FOr {
			other = and
		}
		want := of(other(a, b), not(c), a, c)
		kids := want.Kids
		for n := range 256 {
			w, x, y, z := kids[n%4], kids[n/4%4], kids[n/16%4], kids[n/64]
			all := of(w, x, y, z)
			n := modelNormal(all)
			for _, f := range []api.Filter{all, of(of(w, x), of(y, z)), of(w, of(x, of(y, z))), of(of(of(w, x), y), z), of(w, other(of(x, y)), z), of(of(of(w)), x, of(y, z))} {
				checkNormal(t, f, n)
				checkNormal(t, not(f), modelNormal(not(all)))
			}
		}
		checkIsNormal(t, want)
	}
}
