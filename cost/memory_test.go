package cost_test

import (
	"fmt"
	"reflect"
	"slices"
	"strings"
	"sync"
	"testing"

	"roster/api"
	"roster/cost"
	"roster/filter"
)

// spoilTexts and the others write over lists, the room behind their ends too.
func spoilTexts(texts []string) {
	for i := range texts[:cap(texts)] {
		texts[:cap(texts)][i] = "spoilt"
	}
}

func spoilFilter(f api.Filter) {
	for _, kid := range f.Kids {
		spoilFilter(kid)
	}
	spoilTexts(f.Middles)
	for i := range f.Kids[:cap(f.Kids)] {
		f.Kids[:cap(f.Kids)][i] = api.Filter{Kind: api.FNot, Desc: "spoilt"}
	}
}

func spoil(p api.Plan) {
	for _, kid := range p.Kids {
		spoil(kid)
	}
	spoilTexts(p.Fetch.Pieces)
	spoilFilter(p.Filter)
	for i := range p.Kids[:cap(p.Kids)] {
		p.Kids[:cap(p.Kids)][i] = api.Plan{How: api.PlTest}
	}
}

// wholeFilter and whole show all, with the room behind the ends of lists.
func wholeFilter(f api.Filter) string {
	text := fmt.Sprintf("%d %q %q %q %q %q %v %d of %q", f.Kind, f.Desc, f.Value, f.Start, f.End, f.Rule, f.Dn, len(f.Middles), f.Middles[:cap(f.Middles)])
	for _, kid := range f.Kids[:cap(f.Kids)] {
		text += fmt.Sprintf(" %d(%s)", len(f.Kids), wholeFilter(kid))
	}
	return text
}

func whole(p api.Plan) string {
	text := fmt.Sprintf("%d %d %d %q %d of %q [%s]", p.How, p.Fetch.Kind, p.Fetch.Type, p.Fetch.Key, len(p.Fetch.Pieces), p.Fetch.Pieces[:cap(p.Fetch.Pieces)], wholeFilter(p.Filter))
	for _, kid := range p.Kids[:cap(p.Kids)] {
		text += fmt.Sprintf(" %d{%s}", len(p.Kids), whole(kid))
	}
	return text
}

// cells are the places of all that a list holds, the room behind its end too.
func cells[T any](list []T) []any {
	var out []any
	for i := range list[:cap(list)] {
		out = append(out, &list[:cap(list)][i])
	}
	return out
}

func filterCells(f api.Filter) []any {
	out := append(cells(f.Middles), cells(f.Kids)...)
	for _, kid := range f.Kids {
		out = append(out, filterCells(kid)...)
	}
	return out
}

func planCells(p api.Plan) []any {
	out := slices.Concat(cells(p.Fetch.Pieces), filterCells(p.Filter), cells(p.Kids))
	for _, kid := range p.Kids {
		out = append(out, planCells(kid)...)
	}
	return out
}

// checkNew: no list of a plan shares memory with what was there, or with another one of its own.
func checkNew(t *testing.T, p api.Plan, there ...any) {
	t.Helper()
	taken := map[any]bool{}
	for _, cell := range there {
		taken[cell] = true
	}
	for _, cell := range planCells(p) {
		if taken[cell] {
			t.Errorf("%s shares memory", shown(p))
			return
		}
		taken[cell] = true
	}
}

// roomy has marks in the room behind the ends of all its lists, some of which stand there more than once.
func roomy() api.Filter {
	mark := api.Filter{Kind: 88, Desc: "mark"}
	room := func(kids ...api.Filter) []api.Filter { return append(kids, mark, mark)[:len(kids)] }
	piece := pieces("cn", "abc*")
	piece.Middles = append([]string{"bcd", "c"}, "mark", "mark")[:2]
	again := pieces("sn", "*abc")
	again.Middles = piece.Middles
	empty := equal("cn", "x")
	empty.Kids, empty.Middles = room(), append([]string{}, "mark")[:0]
	inner := room(piece, empty, again, piece)
	left := pieces("name", "*x*")
	left.Middles = piece.Middles
	return api.Filter{Kind: api.FAnd, Kids: room(
		api.Filter{Kind: api.FOr, Kids: inner}, left, api.Filter{Kind: api.FNot, Kids: room(left)}, piece, piece,
		api.Filter{Kind: api.FAnd, Kids: room(left, api.Filter{Kind: api.FAnd, Kids: inner}, left)}, api.Filter{Kind: api.FOr, Kids: room(left, piece)},
	)}
}

// R3: what is handed in is not changed, nor is the room behind its ends, and what is handed out is new: written over it shows nowhere.
func TestPlanIsNew(t *testing.T) {
	s, f := testSchema(t), roomy()
	can := func(q api.Fetch) bool { return q.Type != tName }
	guess := func(q api.Fetch) float64 { return float64(10 + len(q.Pieces)) }
	m := model{s, can, guess, 10000}
	want := m.plan(roomy())
	if want.How != api.PlTest || want.Filter.Kind != api.FAnd || want.Kids[0].How != api.PlAnd {
		t.Fatalf("%s", shown(want))
	}
	var there []any
	for range 3 {
		p, e := cost.Plan(s, f, can, guess, m.all)
		if e != api.OK || !isSame(p, want) {
			t.Fatalf("%s, %v; want %s", shown(p), e, shown(want))
		}
		checkNew(t, p, append(there, filterCells(f)...)...)
		there = append(there, planCells(p)...)
		spoil(p)
		if got, want := wholeFilter(f), wholeFilter(roomy()); got != want {
			t.Fatalf("%s; want %s", got, want)
		}
	}
	if !reflect.DeepEqual(s.Plain(), plainSchema()) {
		t.Error("the schema is another one")
	}
}

// R3: pieces that are asked are new, and nobody else's.
func TestAsksIsNew(t *testing.T) {
	s := testSchema(t)
	f := pieces("sn", "*b*")
	f.Start, f.End, f.Middles = "a", "c", []string{"b", "d", "mark"}[:2]
	want := api.Fetch{Kind: api.GetPart, Type: tSn, Pieces: []string{"a", "b", "d", "c"}}
	first, _, _ := cost.Asks(s, f)
	second, _, _ := cost.Asks(s, f)
	checkNew(t, api.Plan{Fetch: first}, append(cells(f.Middles), cells(second.Pieces)...)...)
	spoilTexts(first.Pieces)
	if !isSameFetch(second, want) || wholeFilter(f) != `4 "sn" "" "a" "c" "" false 2 of ["b" "d" "mark"]` {
		t.Errorf("%s, %s", shownFetch(second), wholeFilter(f))
	}
	spoilFilter(f)
	if !isSameFetch(second, want) {
		t.Errorf("%s", shownFetch(second))
	}
}

// R3: filters by chance, written over behind the call: the plan does not show it, nor does writing over the plan show in the filter.
func TestNothingIsKept(t *testing.T) {
	d := diceOf(11)
	for range 400 {
		s := d.schema(t)
		for range 10 {
			m := model{s, d.cans(), d.guesses(), d.number()}
			f := filter.Twin(d.filter(s, 1+d.Intn(5)))
			again := filter.Twin(f)
			want := m.plan(again)
			p, _ := cost.Plan(s, f, m.can, m.guess, m.all)
			checkNew(t, p, filterCells(f)...)
			spoilFilter(f)
			if !isSame(p, want) {
				t.Fatalf("%s; want %s", shown(p), shown(want))
			}
			spoil(p)
			checkPlan(t, m, again, want)
		}
		if t.Failed() {
			return
		}
	}
}

// R3: Size and Check leave a plan as it is, with the room behind its ends.
func TestPlansAreNotChanged(t *testing.T) {
	planOf := func() api.Plan {
		mark := api.Plan{How: 88}
		room := func(kids ...api.Plan) []api.Plan { return append(kids, mark, mark)[:len(kids)] }
		part := fetch(api.GetPart, 1, "", "z", "a", "", "b")
		part.Fetch.Pieces = part.Fetch.Pieces[:3]
		inner := room(part, keyed("b"), keyed("a"))
		return api.Plan{How: api.PlLess, Kids: room(api.Plan{How: api.PlTest, Filter: roomy(), Kids: room(api.Plan{How: api.PlAnd, Kids: inner})}, api.Plan{How: api.PlOr, Kids: inner})}
	}
	p := planOf()
	guess := func(q api.Fetch) float64 {
		spoilTexts(q.Pieces)
		return float64(3 + len(q.Pieces))
	}
	for range 3 {
		checkCheck(t, p, api.OK, 0)
		if got := cost.Size(p, guess, 100); got != 3 {
			t.Errorf("Size is %v", got)
		}
		if got, want := whole(p), whole(planOf()); got != want {
			t.Fatalf("%s; want %s", got, want)
		}
	}
}

// R3: what can and guess are handed they may write over: neither the other one nor the plan shows it.
func TestAskedMayBeWrittenOver(t *testing.T) {
	s := testSchema(t)
	f := and(pieces("cn", "abc*def*ghi"), pieces("sn", "*x*"), pieces("mixed;x", "*y"))
	want := model{s, yes, nil, 9}.plan(f)
	look := func(q api.Fetch) {
		if slices.Contains(q.Pieces, "spoilt") {
			t.Errorf("%s is asked", shownFetch(q))
		}
		spoilTexts(q.Pieces)
	}
	can := func(q api.Fetch) bool { look(q); return true }
	guess := func(q api.Fetch) float64 { look(q); return 0 }
	for range 2 {
		checkPlan(t, model{s, can, guess, 9}, f, want)
	}
	// Nor where they keep it, and write there later.
	var kept []api.Fetch
	keep := func(q api.Fetch) bool { kept = append(kept, q); return true }
	p, _ := cost.Plan(s, f, keep, func(q api.Fetch) float64 { keep(q); return 0 }, 9)
	for _, q := range kept {
		checkNew(t, p, cells(q.Pieces)...)
		spoilTexts(q.Pieces)
	}
	if len(kept) != 6 || !isSame(p, want) {
		t.Errorf("%d are kept; %s", len(kept), shown(p))
	}
}

// R1: can and guess may write over the filter or the plan itself while they are asked.
func TestWrittenOverUnderWay(t *testing.T) {
	s := testSchema(t)
	made := func() api.Filter {
		return filter.Twin(and(or(ann, pieces("cn", "*abc*")), not(bob), and(eve, named, not(annX)), or(bob)))
	}
	want := model{s, yes, nil, 9}.plan(made())
	f := made()
	can := func(api.Fetch) bool { spoilFilter(f); return true }
	checkPlan(t, model{s, can, nil, 9}, f, want)
	f = made()
	guess := func(api.Fetch) float64 { spoilFilter(f); return 0 }
	checkPlan(t, model{s, yes, guess, 9}, f, want)
	p := either(both(keyed("a"), less(keyed("b"), all)), test(ann, fetch(api.GetPart, 1, "", "a", "b")), less(keyed("c"), none))
	kids := p.Kids
	over := func(q api.Fetch) float64 {
		spoil(p)
		for i := range kids {
			kids[i] = api.Plan{How: api.PlTest}
		}
		return float64(2 + len(q.Key))
	}
	if got := cost.Size(p, over, 9); got != 8 {
		t.Errorf("Size is %v", got)
	}
	parted := either(fetch(api.GetPart, 1, "", "a", "b"), fetch(api.GetPart, 1, "", "c", "d", "e"))
	last := parted.Kids[1].Fetch.Pieces
	seen := []string{}
	cost.Size(parted, func(q api.Fetch) float64 {
		seen = append(seen, q.Pieces...)
		spoilTexts(last)
		return 0
	}, 9)
	if got := strings.Join(seen, ""); got != "abcde" {
		t.Errorf("%s was asked", got)
	}
	// A plan that comes to hold itself.
	p = both(both(keyed("a")), both(keyed("b")))
	if got := cost.Size(p, func(api.Fetch) float64 { p.Kids[1] = p; return 7 }, 9); got != 7 {
		t.Errorf("Size is %v", got)
	}
}

// can and guess may call the package again.
func TestCallsWithinCalls(t *testing.T) {
	s := testSchema(t)
	can := func(q api.Fetch) bool {
		checkPlan(t, planner(t, 100, 3, 4), and(bob, ann), both(keyed("ann"), keyed("bob")))
		return true
	}
	guess := func(q api.Fetch) float64 {
		return cost.Size(api.Plan{How: api.PlFetch, Fetch: q}, func(q api.Fetch) float64 { return float64(len(q.Key)) }, 1)
	}
	checkPlan(t, model{s, can, guess, 100}, and(equal("cn", "long"), ann), both(keyed("ann"), keyed("long")))
}

// R2: all of it at the same time, on the same filters and plans.
func TestGoroutines(t *testing.T) {
	d := diceOf(12)
	s := testSchema(t)
	m := model{s, func(q api.Fetch) bool { return q.Type%2 == 0 }, func(q api.Fetch) float64 { return float64(len(q.Key)) }, 20}
	var filters []api.Filter
	var plans []api.Plan
	for range 200 {
		f := d.filter(s, 4)
		filters, plans = append(filters, f), append(plans, m.plan(f))
	}
	var group sync.WaitGroup
	for range 8 {
		group.Go(func() {
			for i, f := range filters {
				checkPlan(t, m, f, plans[i])
				checkSize(t, m, plans[i], m.size(plans[i]))
				checkCheck(t, plans[i], api.OK, 0)
			}
		})
	}
	group.Wait()
}
