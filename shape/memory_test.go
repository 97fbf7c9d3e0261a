package shape_test

import (
	"fmt"
	"reflect"
	"sync"
	"testing"

	"roster/api"
	"roster/filter"
	"roster/shape"
)

// spoil writes over all of a filter's lists, the room behind their ends too.
func spoil(f api.Filter) {
	for _, kid := range f.Kids {
		spoil(kid)
	}
	kids, middles := f.Kids[:cap(f.Kids)], f.Middles[:cap(f.Middles)]
	for i := range kids {
		kids[i] = api.Filter{Kind: 77, Desc: "spoilt"}
	}
	for i := range middles {
		middles[i] = "spoilt"
	}
}

// whole shows a filter with the room behind the ends of its lists.
func whole(f api.Filter) string {
	text := fmt.Sprintf("%d %q %q %q %q %q %v %d of %q", f.Kind, f.Desc, f.Value, f.Start, f.End, f.Rule, f.Dn, len(f.Middles), f.Middles[:cap(f.Middles)])
	for _, kid := range f.Kids[:cap(f.Kids)] {
		text += fmt.Sprintf(" %d(%s)", len(f.Kids), whole(kid))
	}
	return text
}

// roomy has marks in the room behind the ends of all its lists, some of which stand there more than once.
func roomy() api.Filter {
	mark := api.Filter{Kind: 88, Desc: "mark"}
	room := func(kids ...api.Filter) []api.Filter { return append(kids, mark, mark)[:len(kids)] }
	piece := part("cn", "a", "", append([]string{"b", "c"}, "mark", "mark")[:2]...)
	other := part("sn", "", "a", piece.Middles...)
	empty := equal("CN", "x")
	empty.Kids, empty.Middles = room(), append([]string{}, "mark")[:0]
	inner := room(piece, empty, api.Filter{Kind: api.FNot, Kids: room(piece)}, other, piece)
	return api.Filter{Kind: api.FAnd, Kids: room(
		api.Filter{Kind: api.FOr, Kids: inner}, have("cn"), api.Filter{Kind: api.FNot, Kids: room(api.Filter{Kind: api.FAnd, Kids: inner})},
		api.Filter{Kind: api.FAnd, Kids: room(empty, api.Filter{Kind: api.FOr, Kids: inner[1:3]})}, or(u, piece),
	)}
}

// cells are the places of all that a filter's lists hold, the room behind their ends too.
func cells(f api.Filter) []any {
	var out []any
	for i := range f.Middles[:cap(f.Middles)] {
		out = append(out, &f.Middles[:cap(f.Middles)][i])
	}
	for i := range f.Kids[:cap(f.Kids)] {
		out = append(out, &f.Kids[:cap(f.Kids)][i])
	}
	for _, kid := range f.Kids {
		out = append(out, cells(kid)...)
	}
	return out
}

// checkNew: no list of made shares memory with one of the filters, or with another one of its own.
func checkNew(t *testing.T, made api.Filter, filters ...api.Filter) {
	t.Helper()
	taken := map[any]bool{}
	for _, f := range filters {
		for _, cell := range cells(f) {
			taken[cell] = true
		}
	}
	for _, cell := range cells(made) {
		if taken[cell] {
			t.Errorf("%s shares memory", shown(made))
			return
		}
		taken[cell] = true
	}
}

// R3: what is handed in is not changed, nor is the room behind its ends, and what is handed out is new: written over it shows nowhere.
func TestNothingIsChanged(t *testing.T) {
	s, f := testSchema(t), roomy()
	want := modelNormal(roomy())
	wantRest, _ := modelBare(s, roomy())
	for range 3 {
		n, e := shape.Normal(f)
		rest, some, wrong := shape.Bare(s, f)
		shape.Is(f)
		if e != api.OK || wrong != api.OK || !some || !isSame(n, want) || !isSame(rest, wantRest) {
			t.Fatalf("%s, %v; %s, %v", shown(n), e, shown(rest), wrong)
		}
		checkNew(t, n, f)
		checkNew(t, rest, f, n)
		spoil(n)
		spoil(rest)
		if got, want := whole(f), whole(roomy()); got != want {
			t.Fatalf("%s; want %s", got, want)
		}
	}
	if !reflect.DeepEqual(s.Plain(), plainSchema()) {
		t.Error("the schema is another one")
	}
}

// R3: a filter that is its own normal form is new, too.
func TestNormalIsNew(t *testing.T) {
	s := testSchema(t)
	piece := part("cn", "", "", "a", "b")
	for _, f := range []api.Filter{piece, not(piece), and(not(piece), piece), or(and(not(piece), piece), not(piece), piece), not(not(piece)), and(piece), or(piece, piece)} {
		n, _ := shape.Normal(f)
		rest, _, _ := shape.Bare(s, f)
		checkNew(t, n, f)
		checkNew(t, rest, f, n)
		again, _ := shape.Normal(n)
		checkNew(t, again, f, n, rest)
	}
}

// R3: a filter that is written over behind a call is not seen in what the call answered.
func TestNothingIsKept(t *testing.T) {
	d := diceOf(10)
	s := testSchema(t)
	for range 3000 {
		f := filter.Twin(d.filter(d.items(), 1+d.Intn(6)))
		n, _ := shape.Normal(f)
		rest, some, _ := shape.Bare(s, f)
		checkNew(t, n, f)
		checkNew(t, rest, f, n)
		want := modelNormal(filter.Twin(f))
		wantRest, wantSome := modelBare(s, filter.Twin(f))
		again := filter.Twin(f)
		spoil(f)
		if !isSame(n, want) || some != wantSome || !isSame(rest, wantRest) {
			t.Fatalf("%s, %s; want %s, %s", shown(n), shown(rest), shown(want), shown(wantRest))
		}
		spoil(n)
		spoil(rest)
		checkNormal(t, again, want)
		if t.Failed() {
			return
		}
	}
}

// R2: all of it at the same time, on the same filters.
func TestGoroutines(t *testing.T) {
	d := diceOf(11)
	s := testSchema(t)
	var filters, normals []api.Filter
	for range 200 {
		f := d.filter(d.items(), 5)
		filters, normals = append(filters, f), append(normals, modelNormal(f))
	}
	var all sync.WaitGroup
	for range 8 {
		all.Go(func() {
			for i, f := range filters {
				checkNormal(t, f, normals[i])
				checkIs(t, normals[i], true)
				if want, some := modelBare(s, f); some {
					checkBare(t, s, f, want)
				} else {
					checkNothing(t, s, f)
				}
			}
		})
	}
	all.Wait()
}
