package cost_test

import (
	"math"
	"slices"
	"testing"

	"roster/api"
	"roster/cost"
	"roster/filter"
	"roster/index"
	"roster/schema"
	"roster/text"
)

var (
	nan      = math.NaN()
	inf      = math.Inf(1)
	negative = math.Copysign(0, -1)
)

// ann and so on are items whose fetches are exact under testSchema; annX's isn't; named has no index there; void is not known.
var (
	ann   = equal("cn", "Ann")
	bob   = equal("cn", "Bob")
	eve   = equal("cn", "Eve")
	annX  = equal("cn;x", "Ann")
	named = equal("name", "x")
	other = equal("name", "y")
	void  = equal("zz", "x")
)

func yes(api.Fetch) bool { return true }

func no(api.Fetch) bool { return false }

// cnAlone says yes to keys of cn alone.
func cnAlone(q api.Fetch) bool { return q.Type == tCn && q.Kind == api.GetEqual }

// byKey guesses by the key.
func byKey(guesses map[string]float64) func(q api.Fetch) float64 {
	return func(q api.Fetch) float64 { return guesses[q.Key] }
}

// planner is a model of testSchema, where cn alone may be asked, with a guess for Ann, Bob and Eve each.
func planner(t testing.TB, all float64, guesses ...float64) model {
	told := map[string]float64{}
	for i, guess := range guesses {
		told[[]string{"ann", "bob", "eve"}[i]] = guess
	}
	return model{testSchema(t), cnAlone, byKey(told), all}
}

// exampleSchema is chapter 5's.
func exampleSchema(t *testing.T) *schema.Schema {
	t.Helper()
	plain, err := schema.Parse(`
attributetype ( 2.5.4.0 NAME 'objectClass' EQUALITY objectIdentifierMatch SYNTAX 1.3.6.1.4.1.1466.115.121.1.38 )
attributetype ( 2.5.4.41 NAME 'name' EQUALITY caseIgnoreMatch SUBSTR caseIgnoreSubstringsMatch SYNTAX 1.3.6.1.4.1.1466.115.121.1.15 )
attributetype ( 2.5.4.3 NAME ( 'cn' 'commonName' ) SUP name SYNTAX 1.3.6.1.4.1.1466.115.121.1.15 X-INDEX ( 'equal' 'part' ) )
objectclass ( 2.5.6.0 NAME 'top' ABSTRACT MUST objectClass )
objectclass ( 2.5.6.6 NAME 'person' SUP top STRUCTURAL MUST cn MAY name )
`)
	if err != nil {
		t.Fatal(err)
	}
	return schemaOf(t, plain)
}

func read(t *testing.T, s string) api.Filter {
	t.Helper()
	f, err := text.Parse(s)
	if err != nil {
		t.Fatal(s, err)
	}
	return f
}

// The chapter's examples. cn has the same place there as under testSchema.
func TestPlanExamples(t *testing.T) {
	s := exampleSchema(t)
	can := index.New(s).Can
	name := equal("name", "x")
	for _, x := range []struct {
		f        string
		ann, bob float64
		want     api.Plan
	}{
		{"(cn=Ann)", 0, 0, keyed("ann")},
		{"(cn;x=Ann)", 0, 0, test(annX, keyed("ann"))},
		{"(name=Ann)", 0, 0, test(equal("name", "Ann"), all)},
		{"(cn=A*)", 0, 0, test(pieces("cn", "A*"), all)},
		{"(sn=Ann)", 0, 0, none},
		{"(!(sn=Ann))", 0, 0, none},
		{"(!(cn=Ann))", 0, 0, less(all, keyed("ann"))},
		{"(&(cn=Ann)(name=x))", 0, 0, test(name, keyed("ann"))},
		{"(&(cn=Ann)(cn=Bob))", 3, 40, both(keyed("ann"), keyed("bob"))},
		{"(&(cn=Ann)(cn=Bob))", 3, 41, test(bob, keyed("ann"))},
		{"(&(cn=Ann)(cn=Bob))", nan, 5, test(ann, keyed("bob"))},
		{"(|(cn=Ann)(cn=Bob))", 60, 40, either(keyed("ann"), keyed("bob"))},
		{"(|(cn=Ann)(cn=Bob))", 60, 41, test(or(ann, bob), all)},
		{"(|(cn=Ann)(sn=x))", 60, 41, keyed("ann")},
	} {
		m := model{s, can, byKey(map[string]float64{"ann": x.ann, "bob": x.bob}), 100}
		checkPlan(t, m, read(t, x.f), x.want)
		checkCheck(t, x.want, api.OK, 0)
	}
	m := model{s, can, byKey(map[string]float64{"ann": 3, "bob": 40}), 100}
	checkSize(t, m, both(keyed("ann"), keyed("bob")), 3)
	checkSize(t, m, less(all, keyed("ann")), 100)
	// Beyond the examples: pieces that make grams.
	checkPlan(t, m, read(t, "(cn=An*)"), test(pieces("cn", "An*"), fetch(api.GetPart, 2, "", "an", "")))
}

// No schema counts ahead of a filter that may not be.
func TestPlanErrors(t *testing.T) {
	s := testSchema(t)
	for want, filters := range refusedFilters() {
		for _, f := range filters {
			if p, e := cost.Plan(s, f, yes, nil, 1); e != want || !isSame(p, api.Plan{}) {
				t.Errorf("Plan(%s) is %s, %v; want %v", shownFilter(f), shown(p), e, want)
			}
			if p, e := cost.Plan(nil, f, yes, nil, 1); e != api.ErrNil || !isSame(p, api.Plan{}) {
				t.Errorf("Plan(nil, %s) is %s, %v", shownFilter(f), shown(p), e)
			}
		}
	}
	for _, f := range []api.Filter{ann, void, and(ann, bob), not(ann)} {
		if p, e := cost.Plan(nil, f, yes, nil, 1); e != api.ErrNil || !isSame(p, api.Plan{}) {
			t.Errorf("Plan(nil, %s) is %s, %v", shownFilter(f), shown(p), e)
		}
	}
	// Of two that may not be the first in order tells the error.
	long := refusedFilters()[api.ErrLong][0]
	for want, f := range map[api.Errno]api.Filter{api.ErrLong: and(long, or()), api.ErrFilter: and(or(), long), api.ErrDeep: or(nots(63, ann), long)} {
		if p, e := cost.Plan(s, f, yes, nil, 1); e != want || !isSame(p, api.Plan{}) {
			t.Errorf("Plan(%s) is %s, %v; want %v", shownFilter(f), shown(p), e, want)
		}
	}
	loop := make([]api.Filter, 2)
	loop[0], loop[1] = or(loop...), ann
	loop[0].Kids = loop
	if p, e := cost.Plan(s, loop[0], yes, nil, 1); e != api.ErrDeep || !isSame(p, api.Plan{}) {
		t.Errorf("%s, %v", shown(p), e)
	}
}

// Items of each kind: what may be asked is fetched, and tested where the fetch is not exact; what may not is tested on all.
func TestPlanItems(t *testing.T) {
	s := testSchema(t)
	for _, x := range []struct {
		f     api.Filter
		fetch api.Plan
		exact bool
	}{
		{have("cn"), fetch(api.GetHave, tCn, ""), true}, {have("cn;x"), fetch(api.GetHave, tCn, ""), false},
		{ann, keyed("ann"), true}, {annX, keyed("ann"), false},
		{item(api.FMore, "age", "7"), fetch(api.GetFrom, tAge, number("7")), true}, {item(api.FMore, "age;x", "7"), fetch(api.GetFrom, tAge, number("7")), false},
		{item(api.FLess, "age", "7"), fetch(api.GetUpTo, tAge, number("7")), true}, {item(api.FLess, "age;x", "7"), fetch(api.GetUpTo, tAge, number("7")), false},
		{item(api.FLike, "age", "7"), fetch(api.GetEqual, tAge, number("7")), true}, {item(api.FLike, "age;x", "7"), fetch(api.GetEqual, tAge, number("7")), false},
		{pieces("cn", "A*b*C"), fetch(api.GetPart, tCn, "", "a", "b", "c"), false}, {pieces("cn;x", "A*"), fetch(api.GetPart, tCn, "", "a", ""), false},
		{ruled("cn", "", "Ann"), keyed("ann"), true}, {ruled("cn;x", "caseIgnoreMatch", "Ann"), keyed("ann"), false},
	} {
		want := x.fetch
		if !x.exact {
			want = test(x.f, x.fetch)
		}
		asked := []api.Fetch{}
		one := func(q api.Fetch) bool {
			asked = append(asked, q)
			return isSameFetch(q, x.fetch.Fetch)
		}
		checkPlan(t, model{s, one, nil, 1}, x.f, want)
		if len(asked) == 0 {
			t.Errorf("%s: nothing was asked", shownFilter(x.f))
		}
		for _, q := range asked {
			if !isSameFetch(q, x.fetch.Fetch) {
				t.Errorf("%s: %s was asked", shownFilter(x.f), shownFetch(q))
			}
		}
		checkPlan(t, model{s, yes, nil, 1}, x.f, want)
		for _, can := range []func(api.Fetch) bool{no, nil} {
			checkPlan(t, model{s, can, nil, 1}, x.f, test(x.f, all))
			checkPlan(t, model{s, can, nil, 1}, not(x.f), test(not(x.f), all))
		}
		wantNot := less(all, x.fetch)
		if !x.exact {
			wantNot = test(not(x.f), all)
		}
		checkPlan(t, model{s, yes, nil, 1}, not(x.f), wantNot)
	}
	// What asks nothing.
	for _, f := range []api.Filter{item(api.FLike, "cn", "Ann"), ruled("cn", "caseExactMatch", "Ann"), ruledDn("cn", "", "Ann"), ruled("", "caseIgnoreMatch", "Ann")} {
		checkPlan(t, model{s, yes, nil, 1}, f, test(f, all))
		checkPlan(t, model{s, yes, nil, 1}, not(f), test(not(f), all))
	}
}

// Items that are not known, and Nots of them, whatever may be asked; but only a Not of the item itself is nothing.
func TestPlanVoids(t *testing.T) {
	s := testSchema(t)
	for _, f := range voids() {
		for _, can := range []func(api.Fetch) bool{yes, no, nil} {
			m := model{s, can, nil, 1}
			checkPlan(t, m, f, none)
			checkPlan(t, m, not(f), none)
			for _, x := range []api.Filter{not(not(f)), nots(3, f), not(and(f)), not(or(f, f))} {
				checkPlan(t, m, x, test(x, all))
			}
			for _, x := range []api.Filter{and(f), or(f), or(f, f, not(f)), and(ann, f), and(named, not(f)), and(f, bob, ann), or(and(f, ann), f), and(or(f), ann), and(ann, bob, or(f, not(f)))} {
				checkPlan(t, m, x, none)
			}
		}
		m := planner(t, 100, 3, 4)
		checkPlan(t, m, or(f, ann, not(f)), keyed("ann"))
		checkPlan(t, m, or(f, bob, f, ann), either(keyed("bob"), keyed("ann")))
		checkPlan(t, m, or(f, and(ann, f), bob), keyed("bob"))
		checkPlan(t, m, or(f, not(ann)), test(or(f, not(ann)), all))
		checkPlan(t, m, and(ann, not(not(f))), test(not(not(f)), keyed("ann")))
	}
}

// Nots of an item, of a Not, of And and Or.
func TestPlanNots(t *testing.T) {
	m := planner(t, 100, 3, 4)
	checkPlan(t, m, not(ann), less(all, keyed("ann")))
	for _, f := range []api.Filter{not(annX), not(named), nots(2, ann), nots(3, ann), nots(62, ann), nots(63, ann), not(and(ann)), not(or(ann)), not(and(ann, bob)), not(or(ann, bob)), not(or(not(ann)))} {
		checkPlan(t, m, f, test(f, all))
	}
	// A Not is never direct.
	checkPlan(t, m, and(not(ann)), test(and(not(ann)), all))
	checkPlan(t, m, or(not(ann)), test(or(not(ann)), all))
	checkPlan(t, m, and(not(ann), bob), test(not(ann), keyed("bob")))
	checkPlan(t, m, or(bob, not(ann)), test(or(bob, not(ann)), all))
}

// An And none of whose kids is direct; one that is; all; and those that are not, in their places' order.
func TestPlanAnds(t *testing.T) {
	m := planner(t, 100, 3, 4, 5)
	a, b, e := keyed("ann"), keyed("bob"), keyed("eve")
	for _, f := range []api.Filter{and(named), and(named, other), and(not(ann), not(bob)), and(named, not(ann), or(ann, named)), and(and(named, other))} {
		checkPlan(t, m, f, test(f, all))
	}
	checkPlan(t, m, and(ann), a)
	checkPlan(t, m, and(and(and(ann))), a)
	checkPlan(t, m, and(annX), test(annX, a))
	checkPlan(t, m, and(ann, bob), both(a, b))
	checkPlan(t, m, and(eve, bob, ann), both(a, b, e))
	checkPlan(t, m, and(bob, annX), both(test(annX, a), b))
	checkPlan(t, m, and(ann, ann), both(a, a))
	checkPlan(t, m, and(ann, ann, ann, bob), both(a, a, a, b))
	checkPlan(t, m, and(ann, named), test(named, a))
	checkPlan(t, m, and(named, ann), test(named, a))
	checkPlan(t, m, and(other, ann, named), test(and(other, named), a))
	checkPlan(t, m, and(named, named, ann), test(and(named, named), a))
	checkPlan(t, m, and(other, bob, named, ann, not(eve)), test(and(other, named, not(eve)), both(a, b)))
	// Kids that are joints themselves.
	checkPlan(t, m, and(or(ann, bob), eve), both(e, either(a, b)))
	checkPlan(t, m, and(and(eve, bob), ann), both(a, both(b, e)))
	checkPlan(t, m, and(and(named, bob), ann), both(a, test(named, b)))
	checkPlan(t, m, and(and(named, bob), ann, other), test(other, both(a, test(named, b))))
	checkPlan(t, m, and(and(named, bob), or(eve, ann), and(other)), test(and(other), both(test(named, b), either(e, a))))
}

// Which kids are taken: up to 8 times the least Size, and 16 more.
func TestPlanTaken(t *testing.T) {
	a, b, e := keyed("ann"), keyed("bob"), keyed("eve")
	for _, x := range []struct {
		ann, bob, eve float64
		want          api.Plan
	}{
		{3, 40, 4, both(a, e, b)},
		{3, 41, 4, test(bob, both(a, e))},
		{3, 41, 42, test(and(bob, eve), a)},
		{41, 3, 42, test(and(ann, eve), b)},
		{42, 41, 3, test(and(ann, bob), e)},
		{0, 16, 17, test(eve, both(a, b))},
		{0, math.Nextafter(16, 17), 16, test(bob, both(a, e))},
		{3, math.Nextafter(40, 41), 40, test(bob, both(a, e))},
		{0.5, 20, math.Nextafter(20, 21), test(eve, both(a, b))},
		{100, 816, 817, test(eve, both(a, b))},
		// Equal ones by their places.
		{3, 3, 3, both(a, b, e)}, {3, 2, 3, both(b, a, e)}, {3, 3, 2, both(e, a, b)}, {4, 3, 3, both(b, e, a)}, {0, 0, 0, both(a, b, e)},
		{0, negative, 0, both(a, b, e)}, {negative, 0, negative, both(a, b, e)}, {1, 0, negative, both(b, e, a)}, {1, negative, 0, both(b, e, a)}, {negative, 16, 17, test(eve, both(a, b))},
		// What is no number, or below 0, counts as without end.
		{nan, -1, math.Inf(-1), both(a, b, e)}, {inf, nan, -5e-324, both(a, b, e)}, {nan, 3, 40, test(ann, both(b, e))}, {3, nan, 40, test(bob, both(a, e))}, {-1, 3, inf, test(and(ann, eve), b)}, {-1, inf, 7, test(and(ann, bob), e)},
		// Numbers whose eightfold is without end.
		{1e308, 1.7e308, inf, both(a, b, e)}, {2e307, math.MaxFloat64, 1, test(and(ann, bob), e)}, {2e307, 1.61e308, nan, test(and(bob, eve), a)}, {math.MaxFloat64, nan, 1e308, both(e, a, b)},
		{5e-324, 16, 1, both(a, e, b)},
	} {
		checkPlan(t, planner(t, 100, x.ann, x.bob, x.eve), and(ann, bob, eve), x.want)
	}
	// Without guesses all are taken.
	checkPlan(t, model{testSchema(t), cnAlone, nil, nan}, and(eve, ann, bob), both(e, a, b))
	// The Size of an And is its least one's, of an Or the sum.
	m := planner(t, 100, 3, 40, 41)
	checkPlan(t, m, and(eve, and(bob, ann)), test(eve, both(a, b)))
	checkPlan(t, m, and(ann, and(bob, eve)), both(a, both(b, e)))
	checkPlan(t, m, and(or(ann, bob), eve), both(e, either(a, b)))
	checkPlan(t, m, and(ann, or(bob, eve)), test(or(bob, eve), a))
}

// The product and the sum are rounded one behind the other.
func TestPlanTakenRounded(t *testing.T) {
	a, b := keyed("ann"), keyed("bob")
	taken, left := both(a, b), test(bob, a)
	big := math.Ldexp(1, 55) // its eightfold has steps of 64
	checkPlan(t, planner(t, inf, big, 8*big), and(ann, bob), taken)
	checkPlan(t, planner(t, inf, big, 8*big+64), and(ann, bob), left)
	tie := math.Ldexp(1, 54) // its eightfold has steps of 32: 16 more lie in the middle, and go to the even one
	checkPlan(t, planner(t, inf, tie, 8*tie), and(ann, bob), taken)
	checkPlan(t, planner(t, inf, tie, 8*tie+32), and(ann, bob), left)
	checkPlan(t, planner(t, inf, tie+4, 8*tie+64), and(ann, bob), taken)
	checkPlan(t, planner(t, inf, tie+4, 8*tie+96), and(ann, bob), left)
}

// An Or: what is left of its kids, and their sum.
func TestPlanOrs(t *testing.T) {
	a, b, e := keyed("ann"), keyed("bob"), keyed("eve")
	every := or(ann, bob, eve)
	for _, x := range []struct {
		all           float64
		ann, bob, eve float64
		direct        bool
	}{
		{100, 60, 30, 10, true}, {100, 60, 30, 11, false}, {100, 60, 30, math.Nextafter(10, 0), true}, {100, 100, 0, 0, true}, {100, 100, 5e-324, 0, true}, {math.Nextafter(100, 0), 60, 30, 10, false}, {100, 0, 0, 101, false},
		{0, 0, 0, 0, true}, {0, negative, 0, 0, true}, {negative, 0, 0, 0, true}, {negative, negative, negative, negative, true}, {0, 5e-324, 0, 0, false}, {0, 0, 0, 1, false},
		{100, 1, nan, 1, false}, {100, -1, 1, 1, false}, {100, inf, 1, 1, false}, {math.MaxFloat64, 1, 1, inf, false}, {math.MaxFloat64, 1, math.MaxFloat64, 1, true}, {math.MaxFloat64, math.MaxFloat64, math.MaxFloat64, 1, false},
		{inf, 1, 1, inf, true}, {inf, nan, -1, math.Inf(-1), true}, {nan, 1, nan, 1e308, true}, {-1, inf, 1, 1, true}, {math.Inf(-1), 1e308, 1e308, 1e308, true}, {nan, 0, 0, 0, true},
		// Each step is rounded, in the order in which they stand.
		{1 << 53, 1 << 53, 1, 1, true}, {1 << 53, 1, 1 << 53, 1, true}, {1 << 53, 1, 1, 1 << 53, false}, {1<<53 + 2, 1, 1, 1 << 53, true}, {0.6, 0.1, 0.2, 0.3, false}, {0.6, 0.3, 0.2, 0.1, true},
	} {
		want := either(a, b, e)
		if !x.direct {
			want = test(every, all)
		}
		checkPlan(t, planner(t, x.all, x.ann, x.bob, x.eve), every, want)
	}
	m := planner(t, 100, 3, 40, 57)
	checkPlan(t, m, or(ann), a)
	checkPlan(t, m, or(or(or(annX))), test(annX, a))
	checkPlan(t, m, or(eve, ann, bob), either(e, a, b))
	checkPlan(t, m, or(ann, ann), either(a, a))
	checkPlan(t, m, or(bob, void, ann), either(b, a))
	checkPlan(t, m, or(void, bob, void), b)
	checkPlan(t, m, or(void), none)
	checkPlan(t, m, or(void, not(void)), none)
	for _, f := range []api.Filter{or(named), or(ann, named), or(named, ann), or(ann, not(bob)), or(void, named), or(ann, and(named, other), void), or(ann, bob, bob, bob)} {
		checkPlan(t, m, f, test(f, all))
	}
	// One that is left must be at most all, too.
	checkPlan(t, planner(t, 2, 3), or(ann), test(or(ann), all))
	checkPlan(t, planner(t, 2, 3), or(void, ann), test(or(void, ann), all))
	checkPlan(t, planner(t, 3, 3), or(void, ann), a)
	// But no item and no And is held against all.
	checkPlan(t, planner(t, 2, 3, 4), ann, a)
	checkPlan(t, planner(t, 2, 3, 4), and(ann, bob), both(a, b))
	// Kids that are joints themselves.
	checkPlan(t, m, or(and(ann, bob), eve), either(both(a, b), e))
	checkPlan(t, m, or(and(ann, eve), or(bob, eve)), either(test(eve, a), either(b, e)))
	checkPlan(t, m, or(and(ann, named), bob), either(test(named, a), b))
	// A kid's sum is rounded by itself.
	m = planner(t, 1<<53, 1, 1, 1<<53)
	checkPlan(t, m, or(eve, or(ann, bob)), test(or(eve, or(ann, bob)), all))
	checkPlan(t, m, or(or(eve, ann), bob), either(either(e, a), b))
	// Without guesses every sum is 0.
	checkPlan(t, model{testSchema(t), cnAlone, nil, 0}, every, either(a, b, e))
}

// A filter is planned as it stands, not as its normal form would be.
func TestPlanAsItStands(t *testing.T) {
	m := planner(t, 100, 3, 4, 5)
	a, b, e := keyed("ann"), keyed("bob"), keyed("eve")
	checkPlan(t, m, and(ann, and(bob, eve)), both(a, both(b, e)))
	checkPlan(t, m, or(ann, or(bob, eve)), either(a, either(b, e)))
	checkPlan(t, m, nots(2, and(ann, bob)), test(nots(2, and(ann, bob)), all))
	checkPlan(t, m, not(or(not(ann), not(bob))), test(not(or(not(ann), not(bob))), all))
	checkPlan(t, m, equal("CN", " aNN "), a)
	checkPlan(t, m, and(named, equal("COMMONNAME;X", "ANN")), test(named, test(equal("COMMONNAME;X", "ANN"), a)))
}

// Filters, schemas and answers of can and guess by chance, held against plans made by the chapter's words.
func TestPlanRandom(t *testing.T) {
	d := diceOf(2)
	counts := map[int8]int{}
	for range 2000 {
		s := d.schema(t)
		for range 20 {
			m := model{s, d.cans(), d.guesses(), d.number()}
			if d.Intn(4) == 0 {
				m.can = index.New(s).Can
			}
			f := d.filter(s, 1+d.Intn(5))
			want := m.plan(f)
			checkPlan(t, m, f, want)
			checkSize(t, m, want, m.size(want))
			checkCheck(t, want, api.OK, 0)
			for _, part := range modelParts(want) {
				counts[part.How]++
			}
		}
		if t.Failed() {
			return
		}
	}
	for how := range int8(api.PlLess + 1) {
		if counts[how] < 500 {
			t.Errorf("%d parts are %d", counts[how], how)
		}
	}
}

// Filters of kids that are nearly all direct, so that many are taken, and many left.
func TestPlanRandomKeys(t *testing.T) {
	d := diceOf(3)
	s := testSchema(t)
	var filterOf func(deep int) api.Filter
	filterOf = func(deep int) api.Filter {
		if deep == 0 || d.Intn(4) == 0 {
			return oneOf(d, equal("cn", oneOf(d, "a", "b", "c", "d", "e", "f", "g")), equal("sn", oneOf(d, "a", "b", "c")), have("sn"), pieces("cn", "abc*"), equal("cn;x", "a"), named, void)
		}
		f := api.Filter{Kind: oneOf[int8](d, api.FAnd, api.FOr)}
		for range 1 + d.Intn(6) {
			f.Kids = append(f.Kids, filterOf(deep-1))
		}
		return f
	}
	many := 0
	for range 20000 {
		m := model{s, index.New(s).Can, d.guesses(), 10000}
		f := filterOf(1 + d.Intn(3))
		want := m.plan(f)
		checkPlan(t, m, f, want)
		checkSize(t, m, want, m.size(want))
		if want.How == api.PlTest && want.Filter.Kind == api.FAnd && want.Kids[0].How == api.PlAnd {
			many++
		}
		if t.Failed() {
			return
		}
	}
	if many < 200 {
		t.Errorf("%d times several are taken, and several left", many)
	}
}

// Filters that may not be, by chance: what filter.Check tells.
func TestPlanRefusedRandom(t *testing.T) {
	d := diceOf(4)
	s := testSchema(t)
	refused := refusedFilters()
	every := slices.Concat(refused[api.ErrFilter], refused[api.ErrLong], refused[api.ErrDeep])
	for range 3000 {
		f := oneOf(d, every...)
		for range d.Intn(4) {
			f = oneOf(d, not(f), and(f, ann), or(bob, f), and(void, f, named))
		}
		want, _, _ := filter.Check(f)
		if p, e := cost.Plan(s, f, yes, nil, 1); e != want || want == api.OK || !isSame(p, api.Plan{}) {
			t.Fatalf("Plan(%s) is %s, %v; want %v", shownFilter(f), shown(p), e, want)
		}
	}
}
