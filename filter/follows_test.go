package filter_test

import (
	"slices"
	"testing"

	"roster/api"
	"roster/filter"
)

// notAll are the Nots of the filters.
func notAll(kids []api.Filter) []api.Filter {
	var out []api.Filter
	for _, kid := range kids {
		out = append(out, not(kid))
	}
	return out
}

// P9.7.
func TestDeMorgan(t *testing.T) {
	d := diceOf(t, 8)
	check := func(a, b api.Filter, r api.Record) {
		t.Helper()
		if got, want := filter.Says(d.s, a, r), filter.Says(d.s, b, r); got != want {
			t.Fatalf("%s says %d, %s %d of %v", shown(a), got, shown(b), want, r)
		}
	}
	for range 20000 {
		var kids []api.Filter
		for range 1 + d.Intn(4) {
			kids = append(kids, d.filter(2))
		}
		r := d.record(and(kids...))
		check(not(and(kids...)), or(notAll(kids)...), r)
		check(not(or(kids...)), and(notAll(kids)...), r)
		check(not(not(kids[0])), kids[0], r)
	}
	// All tables of two and three.
	s, r, what := d.s, chapterRecord(), saysWhat()
	for n := range 27 {
		kids := []api.Filter{what[n%3], what[n/3%3], what[n/9]}
		for many := 1; many <= 3; many++ {
			check(not(and(kids[:many]...)), or(notAll(kids[:many])...), r)
			check(not(or(kids[:many]...)), and(notAll(kids[:many])...), r)
		}
		if filter.Says(s, not(not(kids[0])), r) != filter.Says(s, kids[0], r) {
			t.Error("Not of Not")
		}
	}
}

// P9.8: a known filter never says Unknown; an item that is not known always does.
func TestKnownSays(t *testing.T) {
	d := diceOf(t, 9)
	for range 5000 {
		f := d.filter(3)
		item := d.item()
		for range 5 {
			r := d.record(or(f, item))
			if filter.Known(d.s, f) && filter.Says(d.s, f, r) == api.Unknown {
				t.Fatalf("%s is known, and says Unknown of %v", shown(f), r)
			}
			if filter.Known(d.s, item) != (filter.Says(d.s, item, r) != api.Unknown) {
				t.Fatalf("%s says %d of %v", shown(item), filter.Says(d.s, item, r), r)
			}
		}
	}
}

// P9.8: the order and the number of equal kids change nothing.
func TestKidsInAnyOrder(t *testing.T) {
	d := diceOf(t, 10)
	for range 10000 {
		var kids []api.Filter
		for range 1 + d.Intn(4) {
			kids = append(kids, d.filter(2))
		}
		r := d.record(and(kids...))
		other := slices.Clone(kids)
		for range d.Intn(4) {
			other = append(other, kids[d.Intn(len(kids))])
		}
		d.Shuffle(len(other), func(i, j int) { other[i], other[j] = other[j], other[i] })
		for _, of := range []func(...api.Filter) api.Filter{and, or} {
			if got, want := filter.Says(d.s, of(other...), r), filter.Says(d.s, of(kids...), r); got != want {
				t.Fatalf("%s says %d of %v; %s %d", shown(of(other...)), got, r, shown(of(kids...)), want)
			}
		}
	}
}

// P9.8: values of descriptions that are not read change nothing, nor does the name where no item has Dn, nor the number.
func TestSaysByWhatIsRead(t *testing.T) {
	d := diceOf(t, 11)
	var unread int
	for range 20000 {
		f := d.filter(1 + d.Intn(3))
		r := d.record(f)
		other := api.Record{Id: d.Uint64(), Name: r.Name}
		dn := slices.ContainsFunc(modelItems(f), func(p placed) bool { return p.part.Dn })
		if !dn {
			other.Name = d.record(f).Name
		}
		for _, attr := range r.Entry.Attrs {
			if filter.Reads(d.s, f, attr.Desc) {
				other.Entry.Attrs = append(other.Entry.Attrs, attr)
			} else {
				unread++
			}
		}
		for _, attr := range d.record(f).Entry.Attrs {
			if !filter.Reads(d.s, f, attr.Desc) {
				other.Entry.Attrs = append(other.Entry.Attrs, attr)
			}
		}
		d.Shuffle(len(other.Entry.Attrs), func(i, j int) {
			other.Entry.Attrs[i], other.Entry.Attrs[j] = other.Entry.Attrs[j], other.Entry.Attrs[i]
		})
		if got, want := filter.Says(d.s, f, other), filter.Says(d.s, f, r); got != want {
			t.Fatalf("%s says %d of %v, but %d of %v", shown(f), got, other, want, r)
		}
	}
	if unread < 10000 {
		t.Errorf("%d attributes were not read", unread)
	}
}
