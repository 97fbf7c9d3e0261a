package cost_test

import (
	"slices"
	"strings"
	"testing"

	"roster/api"
)

// deep is a plan that is so deep: all within Tests, Ands or Ors.
func deep(how int8, levels int) api.Plan {
	p := all
	for range levels - 1 {
		p = joint(how, p)
		if how == api.PlTest {
			p.Filter = ann
		}
	}
	return p
}

// rightParts may be: each row of the chapter's table, and each kind of fetch at its bounds.
func rightParts() []api.Plan {
	long, longer := strings.Repeat("x", api.MaxText), strings.Repeat("k", 8*api.MaxText)
	out := []api.Plan{none, all, test(ann, none), test(nots(63, ann), all), both(all), both(all, none, all), either(all), either(none, none), less(all, none)}
	for _, place := range []int{0, 1, api.MaxTypes - 1} {
		out = append(out, fetch(api.GetHave, place, ""), fetch(api.GetPart, place, "", "", ""), fetch(api.GetPart, place, "", "a", "b", "", "c"), fetch(api.GetPart, place, "", long, long, long))
		for _, kind := range []int8{api.GetEqual, api.GetFrom, api.GetUpTo} {
			out = append(out, fetch(kind, place, ""), fetch(kind, place, "k"), fetch(kind, place, longer))
		}
	}
	// Lists that are empty are none.
	empty := all
	empty.Kids, empty.Fetch.Pieces, empty.Filter.Kids, empty.Filter.Middles = []api.Plan{}, []string{}, []api.Filter{}, []string{}
	had := fetch(api.GetHave, 1, "")
	had.Fetch.Pieces = []string{}
	return append(out, empty, had, fetch(api.GetPart, 1, "", slices.Repeat([]string{"ab"}, 100000)...))
}

// wrongParts may not be themselves; what they have of kids may.
func wrongParts() []api.Plan {
	var out []api.Plan
	// A field too many: in each row, in each that has no such field.
	for _, p := range []api.Plan{none, all, test(ann, all), both(all), either(all, none), less(all, none)} {
		for _, q := range []api.Fetch{{Kind: 1}, {Kind: -1}, {Type: 1}, {Type: -1}, {Key: "k"}, {Pieces: []string{""}}, {Kind: api.GetPart, Pieces: []string{"", ""}}, keyed("a").Fetch} {
			p.Fetch = q
			out = append(out, p)
		}
	}
	for _, p := range []api.Plan{none, all, keyed("a"), fetch(api.GetHave, 0, ""), both(all), either(all, none), less(all, none)} {
		for _, f := range []api.Filter{{Kind: 1}, {Kind: -1}, {Desc: "a"}, {Value: "a"}, {Start: "a"}, {End: "a"}, {Rule: "a"}, {Dn: true}, {Middles: []string{""}}, {Kids: []api.Filter{{}}}, ann, and(ann)} {
			p.Filter = f
			out = append(out, p)
		}
	}
	// Kids too many or too few.
	for _, x := range []struct {
		p    api.Plan
		kids []int
	}{
		{none, []int{1, 2}}, {all, []int{1, 2}}, {keyed("a"), []int{1, 2}}, {test(ann, all), []int{0, 2, 3}}, {both(all), []int{0}}, {either(all), []int{0}}, {less(all), []int{0, 1, 3, 4}},
	} {
		for _, kids := range x.kids {
			x.p.Kids = slices.Repeat([]api.Plan{all}, kids)
			out = append(out, x.p)
		}
	}
	// Numbers that are no plan's.
	for _, how := range []int8{-128, -1, 7, 8, 127} {
		out = append(out, joint(how), joint(how, all), joint(how, all, all))
	}
	return append(out, wrongFetches()...)
}

// wrongFetches are Fetches and Tests of what may not be.
func wrongFetches() []api.Plan {
	long, longer := strings.Repeat("x", api.MaxText+1), strings.Repeat("k", 8*api.MaxText+1)
	out := []api.Plan{
		fetch(api.GetHave, 1, "k"), fetch(api.GetHave, 1, "", "a", "b"), fetch(api.GetHave, 1, "", ""), fetch(api.GetPart, 1, "k", "a", "b"), fetch(api.GetPart, 1, ""), fetch(api.GetPart, 1, "", "abc"), fetch(api.GetPart, 1, longer, "a", "b"),
		fetch(api.GetPart, 1, "", long, ""), fetch(api.GetPart, 1, "", "", long), fetch(api.GetPart, 1, "", "", long, ""),
	}
	for _, kind := range []int8{api.GetEqual, api.GetFrom, api.GetUpTo} {
		out = append(out, fetch(kind, 1, longer), fetch(kind, 1, "k", ""), fetch(kind, 1, "", "a", "b"))
	}
	for kind := range int8(api.GetPart + 1) {
		for _, place := range []int{-1, api.MaxTypes, 1 << 40, -1 << 63} {
			p := fetch(kind, place, "")
			if kind == api.GetPart {
				p.Fetch.Pieces = []string{"a", "b"}
			}
			out = append(out, p)
		}
	}
	for _, kind := range []int8{-128, -1, 5, 127} {
		out = append(out, fetch(kind, 1, ""), fetch(kind, 1, "k"), fetch(kind, 1, "", "a", "b"))
	}
	for _, filters := range refusedFilters() {
		for _, f := range filters {
			out = append(out, test(f, all))
		}
	}
	return out
}

// Each row, as it may be, with something too many or too few, as a whole and within others.
func TestCheckRows(t *testing.T) {
	for _, x := range rightParts() {
		checkCheck(t, x, api.OK, 0)
		for _, p := range []api.Plan{test(ann, x), both(x), either(all, x, x), less(x, x), both(either(x, none), test(bob, less(all, x)))} {
			checkCheck(t, p, api.OK, 0)
		}
	}
	for _, x := range wrongParts() {
		checkCheck(t, x, api.ErrArg, 0)
		checkCheck(t, test(ann, x), api.ErrArg, 1)
		checkCheck(t, both(x), api.ErrArg, 1)
		checkCheck(t, either(all, both(all, none), x, x), api.ErrArg, 5)
		checkCheck(t, less(test(ann, test(bob, all)), x), api.ErrArg, 4)
		checkCheck(t, both(either(keyed("a"), none), test(bob, less(all, x)), x), api.ErrArg, 7)
	}
}

// Of two faults the first one's place counts: a plan ahead of its kids, each kid with all below it ahead of the next one.
func TestCheckPlaces(t *testing.T) {
	wrong := joint(9)
	checkCheck(t, joint(9, wrong), api.ErrArg, 0)
	checkCheck(t, less(wrong), api.ErrArg, 0)
	checkCheck(t, less(wrong, wrong), api.ErrArg, 1)
	checkCheck(t, less(all, wrong), api.ErrArg, 2)
	checkCheck(t, both(both(both(all), all), wrong, wrong), api.ErrArg, 5)
	checkCheck(t, both(both(both(wrong), wrong), wrong), api.ErrArg, 3)
	checkCheck(t, both(both(both(all), wrong), wrong), api.ErrArg, 4)
	checkCheck(t, both(both(less(wrong), wrong), wrong), api.ErrArg, 2)
	// A filter's own parts are no parts of the plan.
	checkCheck(t, both(test(and(ann, bob, or(eve)), all), wrong), api.ErrArg, 3)
	// The place of the last of many.
	kids := slices.Repeat([]api.Plan{either(all, none)}, 1000)
	checkCheck(t, both(append(kids, wrong)...), api.ErrArg, 3001)
}

// 4 MaxNodes parts, and one more: side by side, in one another, at the end of what may not be.
func TestCheckMany(t *testing.T) {
	const most = 4 * api.MaxNodes
	wrong := joint(9)
	kids := slices.Repeat([]api.Plan{all}, most)
	checkCheck(t, both(kids[:most-1]...), api.OK, 0)
	checkCheck(t, both(kids...), api.ErrLong, 0)
	checkCheck(t, both(append(kids[:most-2:most-2], wrong)...), api.ErrArg, most-1)
	checkCheck(t, both(append(kids[:most-1:most-1], wrong)...), api.ErrLong, 0)
	checkCheck(t, joint(9, kids...), api.ErrLong, 0)
	checkCheck(t, joint(9, kids[:most-1]...), api.ErrArg, 0)
	// Parts that stand deeper count as well.
	pairs := slices.Repeat([]api.Plan{test(ann, all)}, most/2-1)
	checkCheck(t, either(append(pairs, all)...), api.OK, 0)
	checkCheck(t, either(append(pairs, test(ann, all))...), api.ErrLong, 0)
	// Plans whose lists are the same ones, or hold themselves.
	p := all
	for range 17 {
		p = both(p, p)
	}
	checkCheck(t, p, api.OK, 0) // 2^18 - 1 parts
	checkCheck(t, both(p), api.OK, 0)
	checkCheck(t, both(p, all), api.ErrLong, 0)
	for range 200 {
		p = both(p, p)
	}
	checkCheck(t, p, api.ErrLong, 0)
	loop := make([]api.Plan, 2)
	loop[0], loop[1] = both(loop...), all
	loop[0].Kids = loop
	checkCheck(t, loop[0], api.ErrLong, 0)
	checkCheck(t, both(loop...), api.ErrLong, 0)
	checkSize(t, model{}, both(loop...), 0)
	alone := make([]api.Plan, 1)
	alone[0].Kids = alone
	checkCheck(t, alone[0], api.ErrLong, 0)
	checkSize(t, model{}, alone[0], 0)
}

// 2 MaxDepth deep, and one more; that counts behind the number of parts, and ahead of what may not be.
func TestCheckDeep(t *testing.T) {
	const most = 2 * api.MaxDepth
	wrong := joint(9)
	for _, how := range []int8{api.PlTest, api.PlAnd, api.PlOr} {
		for levels := range most + 5 {
			p, want := deep(how, max(levels, 1)), api.OK
			if levels > most {
				want = api.ErrDeep
			}
			checkCheck(t, p, want, 0)
		}
		checkCheck(t, less(deep(how, most-1), all), api.OK, 0)
		checkCheck(t, less(all, deep(how, most-1)), api.OK, 0)
		checkCheck(t, less(all, deep(how, most)), api.ErrDeep, 0)
		checkCheck(t, both(wrong, deep(how, most-1), wrong), api.ErrArg, 1)
		checkCheck(t, both(deep(how, most-1), wrong), api.ErrArg, most)
		checkCheck(t, both(wrong, deep(how, most)), api.ErrDeep, 0)
		checkCheck(t, joint(9, deep(how, most)), api.ErrDeep, 0)
		kids := slices.Repeat([]api.Plan{wrong}, 4*api.MaxNodes-1-most)
		checkCheck(t, both(append(kids, deep(how, most))...), api.ErrDeep, 0)
		checkCheck(t, both(append(kids, wrong, deep(how, most))...), api.ErrLong, 0)
	}
	checkCheck(t, deep(api.PlAnd, api.MaxNodes), api.ErrDeep, 0)
	// What may not be has kids, too.
	checkCheck(t, deep(api.PlNothing, most), api.ErrArg, 0)
	checkCheck(t, deep(api.PlNothing, most+1), api.ErrDeep, 0)
}

// Plans by chance, and such with something else at some part.
func TestCheckRandom(t *testing.T) {
	d := diceOf(6)
	s := testSchema(t)
	places := map[int]int{}
	for range 30000 {
		p := d.plan(s, 1+d.Intn(5))
		checkCheck(t, p, api.OK, 0)
		for range 1 + d.Intn(2) {
			p = d.spoilt(s, p)
		}
		want, at := modelCheck(p)
		if want != api.OK {
			places[min(at, 9)]++
		}
		checkCheck(t, p, want, at)
		if t.Failed() {
			return
		}
	}
	for at := range 10 {
		if places[at] < 100 {
			t.Errorf("%d are wrong at %d", places[at], at)
		}
	}
}
