package compile_test

import (
	"slices"
	"strings"
	"testing"

	"roster/api"
	"roster/code"
	"roster/compile"
	"roster/cost"
)

// The chapter's examples of Compile.
func TestCompileExamples(t *testing.T) {
	checkProgram(t, all, program(nil, opAll))
	checkProgram(t, none, program(nil, opNothing))
	checkProgram(t, both(p, q, r), program(consts(p, q, r), get(0), get(1), opAnd, get(2), opAnd))
	checkProgram(t, test(ann, less(all, p)), program(consts(p, ann), opAll, get(0), opLess, tested(1)))
	wrong, _ := cost.Check(both())
	checkRefused(t, both(), wrong)
}

// P19.1: each row of the table, by itself and within others.
func TestCompileRows(t *testing.T) {
	checkProgram(t, p, program(consts(p), get(0)))
	checkProgram(t, fetch(api.GetHave, 0, ""), program([]api.Const{{}}, get(0)))
	checkProgram(t, test(ann, all), program(consts(ann), opAll, tested(0)))
	checkProgram(t, test(ann, none), program(consts(ann), opNothing, tested(0)))
	checkProgram(t, test(ann, p), program(consts(p, ann), get(0), tested(1)))
	checkProgram(t, test(ann, test(bob, p)), program(consts(p, bob, ann), get(0), tested(1), tested(2)))
	checkProgram(t, less(all, p), program(consts(p), opAll, get(0), opLess))
	checkProgram(t, less(p, q), program(consts(p, q), get(0), get(1), opLess))
	checkProgram(t, less(less(p, q), less(r, all)), program(consts(p, q, r), get(0), get(1), opLess, get(2), opAll, opLess, opLess))
	for how, op := range map[int8]api.Instr{api.PlAnd: opAnd, api.PlOr: opOr} {
		checkProgram(t, joint(how, p), program(consts(p), get(0)))
		checkProgram(t, joint(how, all), program(nil, opAll))
		checkProgram(t, joint(how, p, q), program(consts(p, q), get(0), get(1), op))
		checkProgram(t, joint(how, q, all, p), program(consts(q, p), get(0), opAll, op, get(1), op))
		checkProgram(t, joint(how, p, q, r, p, q), program(consts(p, q, r, p, q), get(0), get(1), op, get(2), op, get(3), op, get(4), op))
		checkProgram(t, joint(how, joint(how, p, q), r), program(consts(p, q, r), get(0), get(1), op, get(2), op))
		checkProgram(t, joint(how, p, joint(how, q, r)), program(consts(p, q, r), get(0), get(1), get(2), op, op))
		checkProgram(t, joint(how, less(all, p), test(ann, q)), program(consts(p, q, ann), opAll, get(0), opLess, get(1), tested(2), op))
	}
	checkProgram(t, either(both(p, q), r, both(none, all)), program(consts(p, q, r), get(0), get(1), opAnd, get(2), opOr, opNothing, opAll, opAnd, opOr))
	rows := []api.Plan{none, all, p, q, r, test(ann, all), test(pieces("cn", "a*b*c"), p), test(not(or(ann, bob)), both(p, q)), both(p), both(all, p), either(p, q, r), either(none), less(all, p), less(both(p, q), either(q, r))}
	for _, x := range rows {
		checkCompile(t, x)
		for _, around := range []api.Plan{test(eve, x), both(x), either(x), both(x, x), either(p, x, q, x), less(x, x), less(all, test(bob, x))} {
			checkCompile(t, around)
		}
		for _, y := range rows {
			checkCompile(t, both(x, y))
			checkCompile(t, either(y, all, x))
			checkCompile(t, less(x, y))
			checkCompile(t, test(ann, both(x, test(bob, y))))
		}
	}
}

// The same fetch or filter twice has two constants.
func TestCompileTwice(t *testing.T) {
	checkProgram(t, both(p, p), program(consts(p, p), get(0), get(1), opAnd))
	checkProgram(t, test(ann, test(ann, p)), program(consts(p, ann, ann), get(0), tested(1), tested(2)))
	checkProgram(t, either(test(ann, p), test(ann, p)), program(consts(p, ann, p, ann), get(0), tested(1), get(2), tested(3), opOr))
	checkProgram(t, less(q, q), program(consts(q, q), get(0), get(1), opLess))
}

// Constants have all that a fetch or a filter may have.
func TestCompileConstants(t *testing.T) {
	long, key := strings.Repeat("x", api.MaxText), strings.Repeat("k", 8*api.MaxText)
	for _, x := range []api.Plan{
		fetch(api.GetHave, api.MaxTypes-1, ""), fetch(api.GetEqual, 0, ""), fetch(api.GetEqual, 5, key), fetch(api.GetFrom, 9, "\xff\x00"), fetch(api.GetUpTo, 1, "k"), fetch(api.GetPart, 2, "", "", ""),
		fetch(api.GetPart, 2, "", "a", "", "b"), fetch(api.GetPart, 2, "", long, long, long), fetch(api.GetPart, 2, "", slices.Repeat([]string{"ab"}, 10000)...),
	} {
		checkProgram(t, x, program(consts(x), get(0)))
		checkProgram(t, both(all, x), program(consts(x), opAll, get(0), opAnd))
	}
	ruled := api.Filter{Kind: api.FRule, Desc: "cn;x", Rule: "caseExactMatch", Value: "v", Dn: true}
	for _, f := range []api.Filter{
		ann, have("cn"), equal("zz", ""), item(api.FMore, "1.1", "5"), item(api.FLess, "age", "x"), item(api.FLike, "cn", "a"), pieces("cn", "a*b*c*d"), pieces("cn", "*x*"), ruled,
		{Kind: api.FRule, Rule: "r", Value: "v"}, and(ann), or(ann, and(bob, not(eve)), ruled, pieces("sn", long+"*"+long)), within(api.FNot, 63, ann), within(api.FAnd, 63, pieces("cn", "*a*")), or(slices.Repeat([]api.Filter{not(ann)}, 5000)...),
	} {
		checkProgram(t, test(f, all), program(consts(f), opAll, tested(0)))
		checkProgram(t, test(not(ann), test(f, p)), program(consts(p, f, not(ann)), get(0), tested(1), tested(2)))
		// Filters are laid as they stand: shape and cost have no say in it.
		checkProgram(t, test(f, none), program(consts(f), opNothing, tested(0)))
	}
	// Lists that are empty are none.
	empty := fetch(api.GetHave, 1, "")
	empty.Fetch.Pieces, empty.Kids, empty.Filter.Kids, empty.Filter.Middles = []string{}, []api.Plan{}, []api.Filter{}, []string{}
	checkProgram(t, empty, program(consts(fetch(api.GetHave, 1, "")), get(0)))
}

// P19.1: plans that cost.Check refuses, each of its errors, wherever they stand.
func TestCompileRefuses(t *testing.T) {
	wrong := []api.Plan{
		{How: -1}, {How: 7}, {How: 127}, {How: -128}, both(), either(), less(), less(p), less(p, q, r), joint(api.PlNothing, p), joint(api.PlAll, all), joint(api.PlTest), {How: api.PlTest, Filter: ann}, joint(api.PlTest, p), {How: api.PlTest, Filter: ann, Kids: []api.Plan{p, q}},
		{How: api.PlFetch, Fetch: p.Fetch, Kids: []api.Plan{all}}, {How: api.PlAll, Fetch: p.Fetch}, {How: api.PlNothing, Filter: ann}, {How: api.PlAnd, Fetch: p.Fetch, Kids: []api.Plan{p}}, {How: api.PlLess, Filter: ann, Kids: []api.Plan{p, q}}, {How: api.PlFetch, Fetch: p.Fetch, Filter: ann},
		fetch(5, 1, ""), fetch(-1, 1, ""), fetch(api.GetHave, -1, ""), fetch(api.GetHave, api.MaxTypes, ""), fetch(api.GetHave, 1, "k"), fetch(api.GetEqual, 1, strings.Repeat("k", 8*api.MaxText+1)), fetch(api.GetEqual, 1, "k", "a", "b"), fetch(api.GetPart, 1, ""), fetch(api.GetPart, 1, "", "a"), fetch(api.GetPart, 1, "k", "a", "b"), fetch(api.GetPart, 1, "", "a", strings.Repeat("x", api.MaxText+1)),
	}
	for _, filters := range refusedFilters() {
		for _, f := range filters {
			wrong = append(wrong, test(f, all))
		}
	}
	for _, x := range wrong {
		checkRefused(t, x, api.ErrArg)
		for _, around := range []api.Plan{test(ann, x), both(x), both(p, x), either(x, p), less(all, x), less(x, all), test(ann, both(p, either(q, less(r, x))))} {
			checkRefused(t, around, api.ErrArg)
			checkCompile(t, around)
		}
	}
	// A plan whose kids are its own list.
	self := make([]api.Plan, 1)
	self[0] = joint(api.PlAnd, self...)
	self[0].Kids = self
	checkRefused(t, self[0], api.ErrLong)
	two := make([]api.Plan, 2)
	two[0], two[1] = joint(api.PlOr, two...), joint(api.PlLess, two...)
	checkRefused(t, two[1], api.ErrLong)
}

// deep is a plan that is so deep: p within Tests, Ands, Ors or Lesses, at their ends.
func deep(how int8, levels int) api.Plan {
	out := p
	for range levels - 1 {
		switch how {
		case api.PlTest:
			out = test(ann, out)
		case api.PlLess:
			out = less(all, out)
		default:
			out = joint(how, all, out)
		}
	}
	return out
}

// As deep as a plan may be, and one more.
func TestCompileDepth(t *testing.T) {
	const most = 2 * api.MaxDepth
	for _, how := range []int8{api.PlTest, api.PlAnd, api.PlOr, api.PlLess} {
		checkCompile(t, deep(how, most))
		got, _ := compile.Compile(deep(how, most))
		want := most
		if how == api.PlTest {
			want = 1
		}
		if code.Depth(got) != want {
			t.Errorf("%d: %d lists", how, code.Depth(got))
		}
		checkRefused(t, deep(how, most+1), api.ErrDeep)
		checkRefused(t, deep(how, 5000), api.ErrDeep)
		checkRefused(t, both(none, deep(how, most)), api.ErrDeep)
	}
	// Too deep comes ahead of what is wrong with a part.
	checkRefused(t, both(both(), deep(api.PlAnd, most)), api.ErrDeep)
}

// As many parts as a plan may have, and one more: the most instructions and constants that there can be.
func TestCompileLong(t *testing.T) {
	const most = 4 * api.MaxNodes
	for _, kid := range []api.Plan{p, all, none} {
		checkCompile(t, either(slices.Repeat([]api.Plan{kid}, most-1)...))
		checkRefused(t, either(slices.Repeat([]api.Plan{kid}, most)...), api.ErrLong)
	}
	got, e := compile.Compile(both(slices.Repeat([]api.Plan{p}, most-1)...))
	if e != api.OK || len(got.Code) != 2*most-3 || len(got.Consts) != most-1 || code.Depth(got) != 2 {
		t.Errorf("%v: %s, %d lists", e, shown(got), code.Depth(got))
	}
	checkCompile(t, both(slices.Repeat([]api.Plan{less(all, p)}, (most-1)/3)...))
	checkCompile(t, both(slices.Repeat([]api.Plan{test(annX, p)}, (most-1)/2)...))
	checkCompile(t, both(slices.Repeat([]api.Plan{either(p)}, (most-1)/2)...))
	// Too long comes ahead of all else.
	checkRefused(t, either(slices.Repeat([]api.Plan{both()}, most)...), api.ErrLong)
	checkRefused(t, either(append(slices.Repeat([]api.Plan{p}, most), deep(api.PlAnd, 200))...), api.ErrLong)
}
