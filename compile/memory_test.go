package compile_test

import (
	"fmt"
	"slices"
	"sync"
	"testing"

	"roster/api"
	"roster/compile"
	"roster/filter"
)

// spoilTexts and the others write over lists, the room behind their ends too.
func spoilTexts(texts []string) {
	for i := range texts[:cap(texts)] {
		texts[:cap(texts)][i] = "spoilt"
	}
}

func spoilFilter(f api.Filter) {
	for _, kid := range f.Kids {
		spoilFilter(kid)
	}
	spoilTexts(f.Middles)
	for i := range f.Kids[:cap(f.Kids)] {
		f.Kids[:cap(f.Kids)][i] = api.Filter{Kind: api.FNot, Desc: "spoilt"}
	}
}

func spoilPlan(p api.Plan) {
	for _, kid := range p.Kids {
		spoilPlan(kid)
	}
	spoilTexts(p.Fetch.Pieces)
	spoilFilter(p.Filter)
	for i := range p.Kids[:cap(p.Kids)] {
		p.Kids[:cap(p.Kids)][i] = api.Plan{How: api.PlTest}
	}
}

func spoil(p api.Program) {
	for _, c := range p.Consts {
		spoilTexts(c.Fetch.Pieces)
		spoilFilter(c.Filter)
	}
	for i := range p.Consts[:cap(p.Consts)] {
		p.Consts[:cap(p.Consts)][i] = api.Const{Test: true}
	}
	for i := range p.Code[:cap(p.Code)] {
		p.Code[:cap(p.Code)][i] = api.Instr{Op: 99, Arg: 99}
	}
}

// wholeFilter and wholePlan show all, with the room behind the ends of lists.
func wholeFilter(f api.Filter) string {
	text := fmt.Sprintf("%d %q %q %q %q %q %v %d of %q", f.Kind, f.Desc, f.Value, f.Start, f.End, f.Rule, f.Dn, len(f.Middles), f.Middles[:cap(f.Middles)])
	for _, kid := range f.Kids[:cap(f.Kids)] {
		text += fmt.Sprintf(" %d(%s)", len(f.Kids), wholeFilter(kid))
	}
	return text
}

func wholePlan(p api.Plan) string {
	text := fmt.Sprintf("%d %d %d %q %d of %q [%s]", p.How, p.Fetch.Kind, p.Fetch.Type, p.Fetch.Key, len(p.Fetch.Pieces), p.Fetch.Pieces[:cap(p.Fetch.Pieces)], wholeFilter(p.Filter))
	for _, kid := range p.Kids[:cap(p.Kids)] {
		text += fmt.Sprintf(" %d{%s}", len(p.Kids), wholePlan(kid))
	}
	return text
}

// cells are the places of all that a list holds, the room behind its end too.
func cells[T any](list []T) []any {
	var out []any
	for i := range list[:cap(list)] {
		out = append(out, &list[:cap(list)][i])
	}
	return out
}

func filterCells(f api.Filter) []any {
	out := append(cells(f.Middles), cells(f.Kids)...)
	for _, kid := range f.Kids {
		out = append(out, filterCells(kid)...)
	}
	return out
}

func planCells(p api.Plan) []any {
	out := slices.Concat(cells(p.Fetch.Pieces), filterCells(p.Filter), cells(p.Kids))
	for _, kid := range p.Kids {
		out = append(out, planCells(kid)...)
	}
	return out
}

func programCells(p api.Program) []any {
	out := append(cells(p.Code), cells(p.Consts)...)
	for _, c := range p.Consts {
		out = append(append(out, cells(c.Fetch.Pieces)...), filterCells(c.Filter)...)
	}
	return out
}

// checkNew: no list of a program shares memory with what was there, or with another one of its own.
func checkNew(t *testing.T, p api.Program, there ...any) {
	t.Helper()
	taken := map[any]bool{}
	for _, cell := range there {
		taken[cell] = true
	}
	for _, cell := range programCells(p) {
		if taken[cell] {
			t.Errorf("%s shares memory", shown(p))
			return
		}
		taken[cell] = true
	}
}

// roomyFilter has marks in the room behind the ends of all its lists, some of which stand there more than once.
func roomyFilter() api.Filter {
	mark := api.Filter{Kind: 88, Desc: "mark"}
	room := func(kids ...api.Filter) []api.Filter { return append(kids, mark, mark)[:len(kids)] }
	piece := pieces("cn", "abc*")
	piece.Middles = append([]string{"bcd", "c"}, "mark", "mark")[:2]
	again := pieces("sn", "*abc")
	again.Middles = piece.Middles
	empty := equal("cn", "x")
	empty.Kids, empty.Middles = room(), append([]string{}, "mark")[:0]
	inner := room(piece, empty, again)
	return api.Filter{Kind: api.FAnd, Kids: room(api.Filter{Kind: api.FOr, Kids: inner}, again, api.Filter{Kind: api.FNot, Kids: room(again)}, piece, piece, api.Filter{Kind: api.FAnd, Kids: inner}, named)}
}

// roomyPlan likewise; one fetch, one filter and one list of kids stand there more than once.
func roomyPlan() api.Plan {
	mark := api.Plan{How: 88}
	room := func(kids ...api.Plan) []api.Plan { return append(kids, mark, mark)[:len(kids)] }
	part := fetch(api.GetPart, tSn, "", "z", "a", "", "b")
	part.Fetch.Pieces = part.Fetch.Pieces[:3]
	f := roomyFilter()
	inner := room(part, p, part, api.Plan{How: api.PlTest, Filter: f, Kids: room(part)})
	return api.Plan{How: api.PlLess, Kids: room(api.Plan{How: api.PlTest, Filter: f, Kids: room(api.Plan{How: api.PlAnd, Kids: inner})}, api.Plan{How: api.PlOr, Kids: inner})}
}

// R3: a plan is not changed, nor is the room behind its ends; the program is new, written over it shows nowhere.
func TestCompileIsNew(t *testing.T) {
	plan := roomyPlan()
	want, _ := modelCompile(roomyPlan())
	var there []any
	for range 3 {
		got, e := compile.Compile(plan)
		if e != api.OK || !isSame(got, want) {
			t.Fatalf("%s, %v; want %s", shown(got), e, shown(want))
		}
		checkNew(t, got, append(there, planCells(plan)...)...)
		there = append(there, programCells(got)...)
		spoil(got)
		if got, want := wholePlan(plan), wholePlan(roomyPlan()); got != want {
			t.Fatalf("%s; want %s", got, want)
		}
	}
	got, _ := compile.Compile(plan)
	spoilPlan(plan)
	if !isSame(got, want) {
		t.Errorf("%s; want %s", shown(got), shown(want))
	}
}

// R3: a filter likewise, on the whole way, with the store that it is looked for in.
func TestWholeIsNew(t *testing.T) {
	st, f := people(t), roomyFilter()
	want, _ := modelWhole(st, roomyFilter(), fewOnes)
	if len(want.Consts) < 3 {
		t.Fatalf("%s", shown(want))
	}
	var there []any
	for range 3 {
		got, e := compile.Whole(st, f, fewOnes)
		if e != api.OK || !isSame(got, want) {
			t.Fatalf("%s, %v; want %s", shown(got), e, shown(want))
		}
		checkNew(t, got, append(there, filterCells(f)...)...)
		there = append(there, programCells(got)...)
		spoil(got)
		if got, want := wholeFilter(f), wholeFilter(roomyFilter()); got != want {
			t.Fatalf("%s; want %s", got, want)
		}
	}
	got, _ := compile.Whole(st, f, fewOnes)
	spoilFilter(f)
	if !isSame(got, want) {
		t.Errorf("%s; want %s", shown(got), shown(want))
	}
	// The program of one instruction too.
	for range 2 {
		got, _ := compile.Whole(st, void, nil)
		if !isSame(got, nothingAtAll) {
			t.Errorf("%s", shown(got))
		}
		spoil(got)
	}
}

// R3: plans and filters by chance, written over behind the call, and programs written over: no later answer shows it.
func TestNothingIsKept(t *testing.T) {
	d := diceOf(7)
	for range 300 {
		st := d.store(t, 10)
		s := st.Schema()
		for range 10 {
			plan := d.plan(s, 5)
			want, _ := modelCompile(plan)
			got, _ := compile.Compile(plan)
			checkNew(t, got, planCells(plan)...)
			if !isSame(got, want) {
				t.Fatalf("%s; want %s", shown(got), shown(want))
			}
			spoil(got)
			if again, _ := compile.Compile(plan); !isSame(again, want) {
				t.Fatalf("%s; want %s", shown(again), shown(want))
			}
			f := filter.Twin(d.filter(s, 5))
			twin, guess := filter.Twin(f), d.guesses()
			want, _ = modelWhole(st, twin, guess)
			got, _ = compile.Whole(st, f, guess)
			checkNew(t, got, filterCells(f)...)
			spoilFilter(f)
			if !isSame(got, want) {
				t.Fatalf("%s; want %s", shown(got), shown(want))
			}
			spoil(got)
			checkWhole(t, st, twin, guess)
		}
	}
}

// R1: guess may write over the filter while it is asked.
func TestWrittenOverUnderWay(t *testing.T) {
	st := people(t)
	f := roomyFilter()
	want, _ := modelWhole(st, roomyFilter(), fewOnes)
	got, e := compile.Whole(st, f, func(api.Fetch) float64 { spoilFilter(f); return 1 })
	if e != api.OK || !isSame(got, want) {
		t.Errorf("%s, %v; want %s", shown(got), e, shown(want))
	}
	// Or change the store: what is made is of the records there were, or of those that there are; it may be.
	got, e = compile.Whole(st, and(ann, bob, not(eve)), func(q api.Fetch) float64 {
		st.Delete(3)
		return float64(st.Count(q))
	})
	if e != api.OK {
		t.Error(e)
	}
	checkSmall(t, st, and(ann, bob, not(eve)), got)
	checkFinds(t, st, and(ann, bob, not(eve)), got)
}

// R2: all of it at the same time, on the same plans, filters and store.
func TestGoroutines(t *testing.T) {
	d := diceOf(8)
	st := people(t)
	var plans []api.Plan
	var filters []api.Filter
	for range 100 {
		plans, filters = append(plans, d.plan(st.Schema(), 4)), append(filters, d.filter(st.Schema(), 4))
	}
	var group sync.WaitGroup
	for range 8 {
		group.Go(func() {
			for i := range plans {
				checkCompile(t, plans[i])
				checkWhole(t, st, filters[i], nil)
			}
		})
	}
	group.Wait()
}
