package cost_test

import (
	"slices"
	"strconv"
	"strings"
	"testing"

	"roster/api"
	"roster/cost"
	"roster/filter"
)

// numbered are so many items of cn, with the options, of keys that rise.
func numbered(many int, options string) []api.Filter {
	out := make([]api.Filter, many)
	for i := range out {
		out[i] = equal("cn"+options, strconv.Itoa(100000+i))
	}
	return out
}

// fetchesOf are the plans of numbered.
func fetchesOf(items []api.Filter) []api.Plan {
	out := make([]api.Plan, len(items))
	for i, f := range items {
		out[i] = keyed(f.Value)
		if f.Desc != "cn" {
			out[i] = test(f, out[i])
		}
	}
	return out
}

func back[T any](list []T) []T {
	out := slices.Clone(list)
	slices.Reverse(out)
	return out
}

func guessKey(q api.Fetch) float64 {
	n, _ := strconv.Atoi(q.Key)
	return float64(n)
}

// As many parts as a filter may have, and one more.
func TestMaxNodes(t *testing.T) {
	s := testSchema(t)
	const most = api.MaxNodes - 1
	m := model{s, cnAlone, guessKey, 1e12}
	for _, options := range []string{"", ";x"} {
		items := numbered(most, options)
		plans := fetchesOf(items)
		checkPlan(t, m, and(items...), both(plans...))
		checkPlan(t, m, and(back(items)...), both(plans...))
		checkPlan(t, m, or(back(items)...), either(back(plans)...))
		// All of one Size, or of two: by their places.
		checkPlan(t, model{s, cnAlone, nil, 1}, and(back(items)...), both(back(plans)...))
		odd := func(q api.Fetch) float64 { return float64(int(guessKey(q)) % 2) }
		evens, odds := []api.Plan{}, []api.Plan{}
		for i, plan := range plans {
			if i%2 == 0 {
				evens = append(evens, plan)
			} else {
				odds = append(odds, plan)
			}
		}
		checkPlan(t, model{s, cnAlone, odd, 1}, and(items...), both(append(evens, odds...)...))
		p, _ := cost.Plan(s, and(items...), m.can, m.guess, m.all)
		checkSmall(t, and(items...), p)
		checkSize(t, m, p, 100000)
		for _, f := range []api.Filter{and(append(items, ann)...), or(append(items, ann)...)} {
			if p, e := cost.Plan(s, f, m.can, m.guess, m.all); e != api.ErrLong || !isSame(p, api.Plan{}) {
				t.Errorf("%s, %v", shown(p), e)
			}
		}
	}
	// None is direct; one is; half are taken; one is not known.
	items := numbered(most, "")
	f := and(items...)
	checkPlan(t, model{s, no, nil, 1}, f, test(f, all))
	alone := func(q api.Fetch) bool { return q.Key == items[777].Value }
	checkPlan(t, model{s, alone, nil, 1}, f, test(and(slices.Concat(items[:777], items[778:])...), keyed(items[777].Value)))
	const half = 30000
	halved := func(q api.Fetch) float64 { return max(16, guessKey(q)-100000-half+17) } // 8 times 16 and 16 more are 144
	checkPlan(t, model{s, cnAlone, halved, 1}, f, test(and(items[half+128:]...), both(fetchesOf(items[:half+128])...)))
	checkPlan(t, m, and(append(items[:most-1:most-1], void)...), none)
	checkPlan(t, m, or(append([]api.Filter{void}, items[1:]...)...), either(fetchesOf(items[1:])...))
	checkPlan(t, m, or(slices.Repeat([]api.Filter{void}, most)...), none)
	// Many Nots beside: they do not count.
	nots := make([]api.Filter, most)
	for i, f := range items {
		nots[i] = not(f)
	}
	checkPlan(t, m, and(nots...), test(and(nots...), all))
}

// As deep as a filter may be, with two levels of the plan for each of its own.
func TestMaxDepth(t *testing.T) {
	s := testSchema(t)
	m := model{s, cnAlone, nil, 9}
	f, want := annX, test(annX, keyed("ann"))
	for range api.MaxDepth - 1 {
		f, want = and(f, named, bob), test(named, both(want, keyed("bob")))
	}
	if e, _, depth := filter.Check(f); e != api.OK || depth != api.MaxDepth || modelDepth(want) != 2*api.MaxDepth {
		t.Fatalf("%v, %d deep, the plan %d", e, depth, modelDepth(want))
	}
	checkPlan(t, m, f, want)
	checkSmall(t, f, want)
	checkSize(t, m, want, 0)
	if p, e := cost.Plan(s, and(f), m.can, m.guess, m.all); e != api.ErrDeep || !isSame(p, api.Plan{}) {
		t.Errorf("%s, %v", shown(p), e)
	}
	// Levels of one kid, of And and Or by turns, of Nots.
	f, want = ann, keyed("ann")
	for level := range api.MaxDepth - 1 {
		f = api.Filter{Kind: int8(level % 2), Kids: []api.Filter{f}}
	}
	checkPlan(t, m, f, want)
	for _, many := range []int{2, 62, 63} {
		checkPlan(t, m, nots(many, ann), test(nots(many, ann), all))
	}
	f, want = ann, keyed("ann")
	for level := range api.MaxDepth - 1 {
		f = api.Filter{Kind: int8(level % 2), Kids: []api.Filter{bob, f}}
		want = joint([]int8{api.PlAnd, api.PlOr}[level%2], keyed("bob"), want)
	}
	checkPlan(t, m, f, want)
}

// Many parts at each of many levels, none of which is direct: each is planned once.
func TestWideAndDeep(t *testing.T) {
	s := testSchema(t)
	f := named
	for level := range api.MaxDepth - 1 {
		kids := append(numbered(1000, ""), f)
		f = api.Filter{Kind: int8(level % 2), Kids: kids}
	}
	asked := 0
	can := func(q api.Fetch) bool { asked++; return cnAlone(q) }
	p, e := cost.Plan(s, f, can, guessKey, 1e12)
	if e != api.OK || asked > 63*1000+1 {
		t.Errorf("%v, %d asked", e, asked)
	}
	checkSmall(t, f, p)
}

// Texts of MaxText bytes.
func TestMaxText(t *testing.T) {
	s := testSchema(t)
	m := model{s, yes, nil, 9}
	long := strings.Repeat("X", api.MaxText)
	checkPlan(t, m, equal("cn", long), keyed(strings.ToLower(long)))
	checkPlan(t, m, equal("sn", long), fetch(api.GetEqual, tSn, long))
	f := pieces("sn", long+"*"+long+"*"+long)
	checkPlan(t, m, f, test(f, fetch(api.GetPart, tSn, "", long, long, long)))
	number := "-" + strings.Repeat("9", api.MaxText-1)
	want := m.plan(item(api.FMore, "age", number))
	if len(want.Fetch.Key) != 4+api.MaxText-1 {
		t.Errorf("the key has %d bytes", len(want.Fetch.Key))
	}
	checkPlan(t, m, item(api.FMore, "age", number), want)
	checkCheck(t, want, api.OK, 0)
	// A description as long as may be: its type is not known.
	checkPlan(t, m, have(long), none)
	options := "cn;" + strings.Repeat("x", api.MaxText-3)
	checkPlan(t, m, have(options), test(have(options), fetch(api.GetHave, tCn, "")))
}

// As many types as a schema may have: the last one's place.
func TestMaxTypes(t *testing.T) {
	plain := plainSchema()
	for i := len(plain.Types); i < api.MaxTypes; i++ {
		plain.Types = append(plain.Types, api.Type{Oid: "3." + strconv.Itoa(i), Names: []string{"t" + strconv.Itoa(i)}, Equal: api.RuleFold})
	}
	s := schemaOf(t, plain)
	want := fetch(api.GetEqual, api.MaxTypes-1, "ann")
	checkPlan(t, model{s, yes, nil, 9}, equal("T1023", "Ann"), want)
	checkCheck(t, want, api.OK, 0)
}
