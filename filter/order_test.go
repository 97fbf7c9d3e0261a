package filter_test

import (
	"slices"
	"strings"
	"testing"

	"roster/api"
	"roster/filter"
)

func checkCmp(t *testing.T, a, b api.Filter, want int) {
	t.Helper()
	if got := filter.Cmp(a, b); got != want {
		t.Errorf("Cmp(%s; %s) is %d; want %d", shown(a), shown(b), got, want)
	}
	if got := filter.Cmp(b, a); got != -want {
		t.Errorf("Cmp(%s; %s) is %d; want %d", shown(b), shown(a), got, -want)
	}
}

// The chapter's examples.
func TestCmpExamples(t *testing.T) {
	checkCmp(t, equal("cn", "a"), equal("cn", "b"), -1)
	checkCmp(t, have("cn"), equal("cn", "a"), 1)
	checkCmp(t, and(), equal("c n", "a"), 0)
}

// rising are filters that may be, in their order.
func rising() []api.Filter {
	a, b := equal("a", "x"), have("a")
	return []api.Filter{
		and(or(a)), and(or(b), a), and(not(a)), and(a), and(a, a), and(a, a, a), and(a, b), and(b), and(b, or(a)), and(b, a),
		or(and(a)), or(a), or(a, b), or(b),
		not(and(b)), not(or(a)), not(not(b)), not(a), not(b),
		equal("1.2", "z"), equal("A", "z"), equal("A;a", ""), equal("a", ""), equal("a", "\x00"), equal("a", "A"), equal("a", "a"), equal("a", "a\x00"), equal("a", "aa"), equal("a", "b"), equal("a", "\xff"), equal("a-", ""), equal("a;x", "a"), equal("b", ""),
		// Start, Middles, End: what is empty stands ahead.
		pieces("a", "*x"), pieces("a", "*x*"), pieces("a", "*x*a"), pieces("a", "*x*a*"), pieces("a", "*x*a*b"), pieces("a", "*x*b*"), pieces("a", "*xx*"), pieces("a", "*y*"), pieces("a", "s*"), pieces("a", "s*\x00"), pieces("a", "s*a*"), pieces("a", "t*"), pieces("b", "*a"),
		item(api.FMore, "a", "z"), item(api.FMore, "b", "a"),
		item(api.FLess, "a", "a"), item(api.FLess, "a", "b"),
		have("a"), have("a;x"), have("b"),
		item(api.FLike, "a", ""), item(api.FLike, "a", "a"),
		// Desc, Value, Rule, Dn.
		rule("", "a", ""), ruleDn("", "a", ""), rule("", "b", ""), ruleDn("", "b", ""), rule("", "a", "x"), rule("", "b", "x"), rule("a", "", ""), ruleDn("a", "", ""), rule("a", "a", ""), ruleDn("a", "a", ""), rule("a", "A", "x"), ruleDn("a", "A", "x"), rule("a", "a", "x"), rule("b", "", "a"),
	}
}

func TestCmpRising(t *testing.T) {
	all := rising()
	for i, a := range all {
		if e, _, _ := filter.Check(a); e != api.OK {
			t.Fatalf("%s is refused", shown(a))
		}
		for j, b := range all {
			if got := filter.Cmp(a, b); got != sign(i-j) {
				t.Errorf("Cmp(%s; %s) is %d; want %d", shown(a), shown(b), got, sign(i-j))
			}
			checkCmp(t, and(a, b), and(a, a), sign(j-i))
			checkCmp(t, nots(10, a), nots(10, b), sign(i-j))
		}
	}
}

// What Check refuses comes behind all else, for whatever it is refused.
func TestCmpRefused(t *testing.T) {
	loop := make([]api.Filter, 1)
	loop[0] = api.Filter{Kind: api.FAnd, Kids: loop}
	refused := []api.Filter{
		{}, {Kind: -1}, {Kind: 10}, {Kind: 127}, or(), api.Filter{Kind: api.FNot}, equal("", "a"), equal("a", strings.Repeat("a", api.MaxText+1)), have("c n"), pieces("a", "*"), pieces("a", "**"), rule("", "", "a"), rule("a", "dn", "a"),
		{Kind: api.FHave, Desc: "a", Value: "a"}, nots(64, have("a")), and(have("a"), and()), doubled(16, have("a")), doubled(63, have("a")), loop[0], or(have("a"), nots(64, have("a"))),
	}
	for _, a := range refused {
		if e, _, _ := filter.Check(a); e == api.OK {
			t.Errorf("%s is taken", shown(a))
		}
		for _, b := range refused {
			checkCmp(t, a, b, 0)
		}
		for _, b := range rising() {
			checkCmp(t, a, b, 1)
		}
		if got := filter.Twin(a); !isSame(got, api.Filter{}) {
			t.Errorf("the twin of %s is %s", shown(a), shown(got))
		}
	}
}

// Lists without anything are the same as none.
func TestCmpEmptyLists(t *testing.T) {
	a := equal("a", "b")
	b := a
	b.Kids, b.Middles = []api.Filter{}, []string{}
	checkCmp(t, a, b, 0)
	checkCmp(t, and(a, b), and(b, a), 0)
}

// Great filters, whose lists are shared.
func TestCmpGreat(t *testing.T) {
	a, b := doubled(15, have("a")), doubled(15, have("b"))
	checkCmp(t, a, b, -1)
	checkCmp(t, a, a, 0)
	c := filter.Twin(a)
	checkCmp(t, a, c, 0)
	end := &c
	for len(end.Kids) > 0 {
		end = &end.Kids[1]
	}
	end.Desc = "c"
	checkCmp(t, a, c, -1)
	checkCmp(t, c, b, -1)
	end.Desc = "A"
	checkCmp(t, a, c, 1)
}

func TestCmpRandom(t *testing.T) {
	d := diceOf(t, 2)
	var all []api.Filter
	for range 300 {
		f := d.filter(3)
		if d.Intn(8) == 0 {
			f = d.spoilt(f)
		}
		all = append(all, f)
	}
	for _, f := range slices.Clone(all[:150]) {
		// One that differs in little.
		all = append(all, d.spoilt(f))
	}
	for _, a := range all {
		for _, b := range all {
			want := modelCmp(a, b)
			if got := filter.Cmp(a, b); got != want {
				t.Fatalf("Cmp(%s; %s) is %d; want %d", shown(a), shown(b), got, want)
			}
			if want == 0 && modelTakes(a) && !isSame(a, b) {
				t.Fatalf("%s and %s are held for the same", shown(a), shown(b))
			}
		}
	}
	// An order: where they are sorted, none stands ahead of one of before.
	slices.SortFunc(all, filter.Cmp)
	for i := range all {
		for j := range i {
			if filter.Cmp(all[j], all[i]) > 0 {
				t.Fatalf("%s stands ahead of %s", shown(all[j]), shown(all[i]))
			}
		}
	}
}

func TestTwin(t *testing.T) {
	for _, f := range rising() {
		if got := filter.Twin(f); !isSame(got, f) || filter.Cmp(got, f) != 0 {
			t.Errorf("the twin of %s is %s", shown(f), shown(got))
		}
	}
	d := diceOf(t, 3)
	for range 5000 {
		f := d.filter(4)
		if got := filter.Twin(f); !isSame(got, f) {
			t.Errorf("the twin of %s is %s", shown(f), shown(got))
		}
		if f = d.spoilt(f); !modelTakes(f) {
			if got := filter.Twin(f); !isSame(got, api.Filter{}) {
				t.Errorf("the twin of %s is %s", shown(f), shown(got))
			}
		}
	}
	great := or(slices.Repeat([]api.Filter{pieces("a", "a*b*c")}, api.MaxNodes-1)...)
	if got := filter.Twin(great); !isSame(got, great) {
		t.Error("the twin of a great filter is another one")
	}
}
