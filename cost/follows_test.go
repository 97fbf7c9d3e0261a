package cost_test

import (
	"slices"
	"testing"

	"roster/api"
	"roster/cost"
	"roster/filter"
	"roster/index"
	"roster/schema"
)

// records are of one schema, with an index of their entries.
type records struct {
	s    *schema.Schema
	all  []api.Record
	told *index.Index
}

func (d dice) records(s *schema.Schema, many int) records {
	out := records{s, nil, index.New(s)}
	for id := range uint64(many) {
		r := d.record(s, id)
		out.all = append(out.all, r)
		out.told.Put(id, r.Entry)
	}
	return out
}

// found are the numbers of which holds says so.
func (rs records) found(holds func(r api.Record) bool) []uint64 {
	var out []uint64
	for _, r := range rs.all {
		if holds(r) {
			out = append(out, r.Id)
		}
	}
	return out
}

func (rs records) yes(f api.Filter) []uint64 {
	return rs.found(func(r api.Record) bool { return filter.Says(rs.s, f, r) == api.Yes })
}

// byTable: a fetch tells what chapter 14's table says, whichever indexes there are.
func (rs records) byTable(p api.Plan) []uint64 {
	tell := func(q api.Fetch, r api.Record) bool { return fetched(rs.s, q, r) }
	return rs.found(func(r api.Record) bool { return tells(rs.s, p, r, tell) })
}

// byIndex: a fetch is asked of the index.
func (rs records) byIndex(t *testing.T, p api.Plan) []uint64 {
	tell := func(q api.Fetch, r api.Record) bool {
		ids, e := rs.told.Fetch(q)
		if e != api.OK {
			t.Errorf("Fetch(%s) is %v", shownFetch(q), e)
		}
		return slices.Contains(ids, r.Id)
	}
	return rs.found(func(r api.Record) bool { return tells(rs.s, p, r, tell) })
}

// checkFinds: P17.5.
func checkFinds(t *testing.T, f api.Filter, p api.Plan, got, want []uint64) {
	t.Helper()
	if !slices.Equal(got, want) {
		t.Errorf("%s: %s tells %v; want %v", shownFilter(f), shown(p), got, want)
	}
}

// P17.5 and P17.6's first words, over filters, schemas and records by chance, whatever can and guess answer, also such that answer otherwise each time.
func TestFindsAll(t *testing.T) {
	d := diceOf(7)
	found, fetches := 0, 0
	for range 1200 {
		s := d.schema(t)
		rs := d.records(s, 12)
		for range 12 {
			f := d.filter(s, 1+d.Intn(5))
			want := rs.yes(f)
			found += len(want)
			can, guess := d.cans(), d.guesses()
			if d.Intn(3) == 0 {
				can = func(api.Fetch) bool { return d.Intn(3) > 0 }
				guess = func(api.Fetch) float64 { return d.number() }
			}
			p, e := cost.Plan(s, f, can, guess, d.number())
			if e != api.OK {
				t.Fatalf("%s: %v", shownFilter(f), e)
			}
			checkFinds(t, f, p, rs.byTable(p), want)
			checkSmall(t, f, p)
			fetches += slices.IndexFunc(modelParts(p), func(part api.Plan) bool { return part.How == api.PlFetch }) + 1
			p, _ = cost.Plan(s, f, rs.told.Can, guess, d.number())
			checkFinds(t, f, p, rs.byIndex(t, p), want)
			checkFinds(t, f, p, rs.byTable(p), want)
			checkSmall(t, f, p)
		}
		if t.Failed() {
			return
		}
	}
	if found < 10000 || fetches < 3000 {
		t.Errorf("%d are found, %d fetches", found, fetches)
	}
}

// The same with the counts of the index as guesses.
func TestFindsAllByCounts(t *testing.T) {
	d := diceOf(8)
	for range 100 {
		s := d.schema(t)
		rs := d.records(s, 60)
		guess := func(q api.Fetch) float64 { return float64(rs.told.Count(q)) }
		for range 15 {
			f := d.filter(s, 1+d.Intn(5))
			p, e := cost.Plan(s, f, rs.told.Can, guess, 60)
			if e != api.OK {
				t.Fatalf("%s: %v", shownFilter(f), e)
			}
			checkFinds(t, f, p, rs.byIndex(t, p), rs.yes(f))
			if size := cost.Size(p, guess, 60); !(size <= 60) {
				t.Errorf("Size(%s) is %v", shown(p), size)
			}
		}
		if t.Failed() {
			return
		}
	}
}

// nodes are a filter's parts: those that are no Nots, and the Nots.
func nodes(f api.Filter) (n, m int) {
	for _, kid := range f.Kids {
		a, b := nodes(kid)
		n, m = n+a, m+b
	}
	if f.Kind == api.FNot {
		return n, m + 1
	}
	return n + 1, m
}

// checkSmall: P17.6, but for Sizes.
func checkSmall(t *testing.T, f api.Filter, p api.Plan) {
	t.Helper()
	checkCheck(t, p, api.OK, 0)
	n, m := nodes(f)
	if many := len(modelParts(p)); many > 2*(n+m)+2 {
		t.Errorf("%s has %d and %d parts, its plan %s %d", shownFilter(f), n, m, shown(p), many)
	}
}

// P17.6: where guesses and all are numbers from 0 on, and no guess is above all, Sizes are at most all.
func TestSizesAreAtMostAll(t *testing.T) {
	d := diceOf(9)
	for range 2000 {
		s := d.schema(t)
		most := oneOf(d, 0, 1, 50, 100, 0.3, 1<<53, 5e-324, 1e308, inf)
		told := map[string]float64{}
		guess := func(q api.Fetch) float64 {
			key := shownFetch(q)
			if _, is := told[key]; !is {
				told[key] = oneOf(d, 0, most, most/2, most/3, most*0.1, most/7, most-most/3)
			}
			return told[key]
		}
		if most == inf {
			guess = func(q api.Fetch) float64 { return oneOf(d, 0, 7, 1e308, inf) }
		}
		for range 10 {
			f := d.filter(s, 1+d.Intn(5))
			p, e := cost.Plan(s, f, yes, guess, most)
			if size := cost.Size(p, guess, most); e != api.OK || !(size <= most) {
				t.Errorf("%s, %v: Size(%s) is %v; all is %v", shownFilter(f), e, shown(p), size, most)
			}
			checkSmall(t, f, p)
		}
		if t.Failed() {
			return
		}
	}
}

// P17.7: what items ask, of each kind, over schemas and records by chance.
func TestAsksTells(t *testing.T) {
	d := diceOf(10)
	var exacts, more, others [api.FRule + 1]int
	for range 1500 {
		s := d.schema(t)
		rs := d.records(s, 15)
		for range 20 {
			f := d.knownItem(s)
			q, exact, ok := cost.Asks(s, f)
			if !ok {
				continue
			}
			want := rs.yes(f)
			got := rs.found(func(r api.Record) bool { return fetched(s, q, r) })
			if rs.told.Can(q) {
				if ids, e := rs.told.Fetch(q); e != api.OK || !slices.Equal(ids, got) {
					t.Fatalf("Fetch(%s) is %v, %v; want %v", shownFetch(q), ids, e, got)
				}
			}
			lost := slices.ContainsFunc(want, func(id uint64) bool { return !slices.Contains(got, id) })
			switch {
			case lost || exact && len(got) > len(want):
				t.Errorf("%s asks %s, %v: %v; want %v", shownFilter(f), shownFetch(q), exact, got, want)
			case exact && len(want) > 0:
				exacts[f.Kind]++
			case len(got) > len(want):
				more[f.Kind]++
			case len(want) > 0:
				others[f.Kind]++
			}
		}
		if t.Failed() {
			return
		}
	}
	for _, kind := range []int{api.FEqual, api.FMore, api.FLess, api.FHave, api.FLike, api.FRule} {
		if exacts[kind] < 50 || more[kind] < 10 {
			t.Errorf("%d: %d are exact, %d tell more", kind, exacts[kind], more[kind])
		}
	}
	if exacts[api.FPart] > 0 || more[api.FPart] < 50 || others[api.FPart] < 50 {
		t.Errorf("of pieces %d are exact, %d tell more, %d as many", exacts[api.FPart], more[api.FPart], others[api.FPart])
	}
}
