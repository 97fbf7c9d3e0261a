package code_test

import (
	"math"
	"slices"
	"testing"

	"roster/api"
	"roster/code"
	"roster/cost"
	"roster/filter"
)

// The chapter's examples.
func TestCheckExamples(t *testing.T) {
	checkCheck(t, program(all), api.OK, 0)
	checkCheck(t, program(nothing, all, join), api.OK, 0)
	checkCheck(t, program(), api.ErrStack, 0)
	checkCheck(t, program(join), api.ErrStack, 0)
	checkCheck(t, program(all, all), api.ErrStack, 2)
	checkCheck(t, program(api.Instr{Op: 7}), api.ErrCode, 0)
	checkCheck(t, program(fetch(0)), api.ErrCode, 0)
	checkCheck(t, with(program(fetch(0)), testX), api.ErrCode, 1)
	checkCheck(t, unused(test(and())), api.ErrCode, 0)
	checkDepth(t, program(all, nothing, join), 2)
	checkCheck(t, program(join), api.ErrStack, 0)
}

// rightConsts may be: each kind, at its bounds.
func rightConsts() []api.Const {
	long, key := filled(api.MaxText), filled(8*api.MaxText)
	var out []api.Const
	for _, place := range []int{0, 1, api.MaxTypes - 1} {
		out = append(out, get(api.GetHave, place, ""), get(api.GetPart, place, "", "", ""), get(api.GetPart, place, "", "a", "b", "", "c"), get(api.GetPart, place, "", long, long), get(api.GetPart, place, "", "", long, ""))
		for _, kind := range []int8{api.GetEqual, api.GetFrom, api.GetUpTo} {
			out = append(out, get(kind, place, ""), get(kind, place, "k"), get(kind, place, key[1:]), get(kind, place, key))
		}
	}
	// Lists that are empty are none.
	had, empty := get(api.GetHave, 1, ""), testX
	had.Fetch.Pieces, had.Filter.Kids, had.Filter.Middles = []string{}, []api.Filter{}, []string{}
	empty.Fetch.Pieces = []string{}
	out = append(out, had, empty, get(api.GetPart, 1, "", slices.Repeat([]string{"ab"}, 100000)...))
	for _, f := range []api.Filter{
		have("cn"), equal("cn", ""), equal("cn;x", long), item(api.FMore, "1.2", "a"), item(api.FLess, "a", "a"), item(api.FLike, "a", "a"), part("cn", "a", ""), part("cn", "", long), part("cn", "", "", "m", "n"),
		ruled("cn", "", "v", false), ruled("cn", "", "v", true), ruled("", "r", "", false), ruled("cn", "1.2", "v", true), and(have("a")), or(have("a"), have("a")), not(have("a")), around(api.FNot, 63, have("a")), around(api.FAnd, 63, have("a")),
		or(slices.Repeat([]api.Filter{have("a")}, api.MaxNodes-1)...), or(slices.Repeat([]api.Filter{not(have("a"))}, api.MaxNodes-1)...),
	} {
		out = append(out, test(f))
	}
	return out
}

// wrongFetches are kinds with a field too many, too few, or beyond its bound.
func wrongFetches() []api.Const {
	long, key := filled(api.MaxText+1), filled(8*api.MaxText+1)
	out := []api.Const{
		get(api.GetHave, 1, "k"), get(api.GetHave, 1, "", ""), get(api.GetHave, 1, "", "a", "b"), get(api.GetHave, 1, key),
		get(api.GetPart, 1, ""), get(api.GetPart, 1, "", ""), get(api.GetPart, 1, "", "abc"), get(api.GetPart, 1, "k", "a", "b"), get(api.GetPart, 1, "", long, ""), get(api.GetPart, 1, "", "", long), get(api.GetPart, 1, "", "", long, ""), get(api.GetPart, 1, "", long),
	}
	for _, kind := range []int8{api.GetEqual, api.GetFrom, api.GetUpTo} {
		out = append(out, get(kind, 1, key), get(kind, 1, "k", ""), get(kind, 1, "k", "a"), get(kind, 1, "", "a", "b"))
	}
	for kind := range int8(5) {
		for _, place := range []int{-1, api.MaxTypes, 1 << 31, 1 << 40, math.MaxInt, math.MinInt} {
			c := get(kind, place, "")
			if kind == api.GetPart {
				c.Fetch.Pieces = []string{"a", "b"}
			}
			out = append(out, c)
		}
	}
	for _, kind := range []int8{math.MinInt8, -1, 5, 6, math.MaxInt8} {
		out = append(out, get(kind, 1, ""), get(kind, 1, "k"), get(kind, 1, "", "a", "b"))
	}
	return out
}

// wrongFilters may not be, each by another of filter.Check's errors.
func wrongFilters() []api.Filter {
	long := filled(api.MaxText + 1)
	valued := have("cn")
	valued.Value = "v"
	kidded := equal("cn", "a")
	kidded.Kids = []api.Filter{have("cn")}
	self := make([]api.Filter, 1)
	self[0] = and(self...)
	self[0].Kids = self
	return []api.Filter{
		{}, and(), or(), not(), not(have("a"), have("b")), item(10, "cn", ""), item(-1, "cn", ""), equal("", "a"), equal("c n", "a"), equal("cn;", "a"), have(""), valued, kidded, part("cn", "", ""), part("cn", "a", "", ""), part("", "a", ""),
		ruled("", "", "v", false), ruled("", "dn", "v", true), and(have("cn"), or()), equal("cn", long), equal(long, "a"), part("cn", "", "", long), around(api.FNot, 64, have("a")), around(api.FOr, 64, have("a")), around(api.FAnd, 1000, have("a")), self[0],
		or(slices.Repeat([]api.Filter{have("a")}, api.MaxNodes)...),
	}
}

func wrongConsts() []api.Const {
	out := wrongFetches()
	for _, f := range wrongFilters() {
		out = append(out, test(f))
	}
	// A fetch with something of a filter.
	for _, c := range []api.Const{getA, get(api.GetHave, 0, ""), get(api.GetPart, 2, "", "a", "b")} {
		for _, f := range []api.Filter{{Kind: 1}, {Kind: -1}, {Desc: "a"}, {Value: "a"}, {Start: "a"}, {End: "a"}, {Rule: "a"}, {Dn: true}, {Middles: []string{""}}, {Kids: []api.Filter{{}}}, have("cn"), and(have("cn"))} {
			c.Filter = f
			out = append(out, c)
		}
	}
	// A test with something of a fetch.
	for _, c := range []api.Const{testX, test(and(have("cn")))} {
		for _, q := range []api.Fetch{{Kind: 1}, {Kind: -1}, {Type: 1}, {Type: -1}, {Key: "k"}, {Pieces: []string{""}}, {Pieces: []string{"a", "b"}}, getA.Fetch} {
			c.Fetch = q
			out = append(out, c)
		}
	}
	// Told to be the other one than it is.
	turned := getA
	turned.Test = true
	again := testX
	again.Test = false
	return append(out, turned, again, api.Const{Test: true})
}

// named is a program whose only constant is used.
func named(c api.Const) api.Program {
	if c.Test {
		return with(program(all, tested(0)), c)
	}
	return with(program(fetch(0)), c)
}

// P18.1: which constants may be, and the place of the first that may not, used or not.
func TestConstants(t *testing.T) {
	for _, c := range rightConsts() {
		checkDepth(t, unused(c), 1)
		checkDepth(t, named(c), 1)
		checkCheck(t, unused(getA, c, testX, c), api.OK, 0)
	}
	for _, c := range wrongConsts() {
		checkCheck(t, unused(c), api.ErrCode, 0)
		checkCheck(t, named(c), api.ErrCode, 0)
		checkCheck(t, unused(c, c), api.ErrCode, 0)
		checkCheck(t, unused(getA, c, testX), api.ErrCode, 1)
		checkCheck(t, unused(testX, getA, testX, c, c), api.ErrCode, 3)
		checkCheck(t, with(program(), getA, testX, c), api.ErrCode, 2)
		checkCheck(t, with(program(join, fetch(9)), getA, testX, c), api.ErrCode, 2)
	}
	// The zero constant is a fetch: GetHave of the type 0.
	checkDepth(t, named(api.Const{}), 1)
}

// A fetch may be a constant just if it may be a plan's (P17.4), a filter a test just if filter.Check takes it.
func TestConstantsElsewhere(t *testing.T) {
	for _, c := range append(rightConsts(), wrongConsts()...) {
		e, _ := code.Check(unused(c))
		if !c.Test && sameFilter(c.Filter, api.Filter{}) {
			if wrong, _ := cost.Check(api.Plan{How: api.PlFetch, Fetch: c.Fetch}); (e == api.OK) != (wrong == api.OK) {
				t.Errorf("%v, in a plan %v: %s", e, wrong, shown(unused(c)))
			}
		}
		if c.Test && sameConst(api.Const{Fetch: c.Fetch}, api.Const{}) {
			if wrong, _, _ := filter.Check(c.Filter); (e == api.OK) != (wrong == api.OK) {
				t.Errorf("%v, by itself %v: %s", e, wrong, shown(unused(c)))
			}
		}
	}
}

// P18.1: every Op with every sort of Arg, where the stack has enough lists.
func TestInstructions(t *testing.T) {
	consts := []api.Const{getA, testX, get(api.GetHave, 0, ""), test(have("a"))}
	args := []int{math.MinInt, -1 << 32, -2, -1, 0, 1, 2, 3, 4, 5, 255, 1 << 31, 1 << 32, math.MaxInt}
	for op := range 256 {
		for _, arg := range args {
			i := api.Instr{Op: uint8(op), Arg: arg}
			p := with(program(all, nothing, i), consts...)
			if !modelInstr(i, consts) {
				checkCheck(t, p, api.ErrCode, len(consts)+2)
				continue
			}
			checkProgram(t, p)
			for _, end := range []api.Instr{meet, join, less} {
				p.Code = append(p.Code, end)
				checkProgram(t, p)
			}
		}
	}
	// With no constant, with one of the wrong sort, just beyond the last one.
	checkCheck(t, program(fetch(0)), api.ErrCode, 0)
	checkCheck(t, program(all, tested(0)), api.ErrCode, 1)
	checkCheck(t, with(program(all, tested(0)), getA), api.ErrCode, 2)
	checkCheck(t, with(program(all, tested(1)), testX), api.ErrCode, 2)
	checkCheck(t, with(program(fetch(1)), getA), api.ErrCode, 1)
	checkCheck(t, with(program(fetch(-1)), getA), api.ErrCode, 1)
	// One constant for many instructions, and many that none names.
	checkDepth(t, with(program(fetch(0), fetch(0), join, tested(1), tested(1), fetch(0), less), getA, testX, testX, getA), 2)
}

// Of two faults the first place's counts; at one instruction that it may not be, ahead of the stack.
func TestCheckPlaces(t *testing.T) {
	bad := test(and())
	checkCheck(t, with(program(api.Instr{Op: 9}), getA, bad), api.ErrCode, 1)
	checkCheck(t, with(program(join), getA, bad), api.ErrCode, 1)
	checkCheck(t, with(program(), bad), api.ErrCode, 0)
	checkCheck(t, with(program(), getA), api.ErrStack, 1)
	checkCheck(t, with(program(), getA, testX, getA), api.ErrStack, 3)
	checkCheck(t, program(api.Instr{Op: api.OpOr, Arg: 1}), api.ErrCode, 0)
	checkCheck(t, program(tested(0)), api.ErrCode, 0)
	checkCheck(t, with(program(tested(0)), testX), api.ErrStack, 1)
	checkCheck(t, program(api.Instr{Op: 7}, join), api.ErrCode, 0)
	checkCheck(t, program(join, api.Instr{Op: 7}), api.ErrStack, 0)
	checkCheck(t, with(program(join, api.Instr{Op: 7}), getA, testX), api.ErrStack, 2)
	checkCheck(t, with(program(all, join, all), getA, testX), api.ErrStack, 3)
	checkCheck(t, program(all, all, all, api.Instr{Op: 7}), api.ErrCode, 3)
	checkCheck(t, program(all, all, all), api.ErrStack, 3)
	checkCheck(t, with(program(all, all, all), getA, testX), api.ErrStack, 5)
	checkCheck(t, program(all, all, join, join, all), api.ErrStack, 3)
}

// P18.1: all rows of up to six instructions, of each Op.
func TestStack(t *testing.T) {
	every := []api.Instr{nothing, all, fetch(0), tested(1), meet, join, less}
	taken := 0
	var try func(row []api.Instr, more int)
	try = func(row []api.Instr, more int) {
		p := with(program(row...), getA, testX)
		want, at, depth := modelCheck(p)
		e, where := code.Check(p)
		if e != want || where != at || code.Depth(p) != depth {
			t.Errorf("%v: %v at %d, %d deep; want %v at %d, %d", row, e, where, code.Depth(p), want, at, depth)
		}
		if want == api.OK {
			taken++
		}
		if more == 0 || t.Failed() {
			return
		}
		for _, i := range every {
			try(append(row, i), more-1)
		}
	}
	try(nil, 6)
	if taken < 1000 {
		t.Errorf("only %d are taken", taken)
	}
}

// Lists are counted while they are on the stack.
func TestDepth(t *testing.T) {
	checkDepth(t, program(all), 1)
	checkDepth(t, program(all, all, join, all, join, nothing, less), 2)
	checkDepth(t, program(all, all, all, join, join), 3)
	checkDepth(t, program(all, all, all, meet, less, all, all, meet, join), 3)
	checkDepth(t, program(all, all, join, all, all, all, less, less, less), 4)
	checkDepth(t, with(program(all, tested(0), tested(0), tested(0)), testX), 1)
	for _, many := range []int{1, 2, 3, 100, 5000} {
		var p api.Program
		p.Code = append(p.Code, slices.Repeat([]api.Instr{all}, many)...)
		p.Code = append(p.Code, slices.Repeat([]api.Instr{meet}, many-1)...)
		checkDepth(t, p, many)
		p.Code = append(p.Code, meet)
		checkCheck(t, p, api.ErrStack, 2*many-1)
	}
}

// MaxCode instructions and constants, and one more of each.
func TestMaxCode(t *testing.T) {
	const most = api.MaxCode
	tests := append([]api.Instr{all}, slices.Repeat([]api.Instr{tested(0)}, most)...)
	checkDepth(t, with(program(tests[:most]...), testX), 1)
	checkCheck(t, with(program(tests...), testX), api.ErrLong, 0)
	high := slices.Concat(slices.Repeat([]api.Instr{all}, most/2), slices.Repeat([]api.Instr{join}, most/2-1), tests[1:2])
	checkDepth(t, with(program(high...), testX), most/2)
	checkCheck(t, program(make([]api.Instr, most)...), api.ErrStack, most)
	consts := slices.Repeat([]api.Const{getA}, most+1)
	checkDepth(t, unused(consts[:most]...), 1)
	checkCheck(t, unused(consts...), api.ErrLong, 0)
	checkDepth(t, with(program(fetch(most-1)), consts[:most]...), 1)
	checkCheck(t, with(program(fetch(most)), consts[:most]...), api.ErrCode, most)
	checkCheck(t, with(program(all, join), consts[:most]...), api.ErrStack, most+1)
	checkCheck(t, with(program(make([]api.Instr, most)...), consts[:most]...), api.ErrStack, 2*most)
	// Too many is told ahead of all else.
	consts[0] = test(and())
	checkCheck(t, unused(consts...), api.ErrLong, 0)
	checkCheck(t, with(program(tests...), consts[:1]...), api.ErrLong, 0)
	checkCheck(t, with(program(tests[:most]...), consts[:1]...), api.ErrCode, 0)
	checkCheck(t, program(slices.Repeat([]api.Instr{{Op: 7, Arg: -1}}, most+1)...), api.ErrLong, 0)
	checkCheck(t, program(slices.Repeat([]api.Instr{{Op: 7, Arg: -1}}, most)...), api.ErrCode, 0)
}
