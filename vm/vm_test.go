package vm_test

import (
	"fmt"
	"math"
	"slices"
	"strings"
	"testing"

	"roster/api"
	"roster/code"
	"roster/store"
	"roster/vm"
)

// The chapter's examples.
func TestExamples(t *testing.T) {
	st := people(t)
	for text, want := range map[string][]uint64{"*": {3, 7, 9}, "a": {3, 7}, "ab&": {7}, "*a-": {9}, "*t": {9}, "0*|": {3, 7, 9}} {
		checkRunIs(t, st, written(text), want...)
	}
	checkRefused(t, st, written("**"), api.ErrStack)
	checkRefused(t, st, program([]api.Const{get(api.GetHave, tCn, "")}, fetched(0)), api.ErrArg)
	checkRefused(t, st, program([]api.Const{get(api.GetEqual, tName, "ann")}, fetched(0)), api.ErrArg)
	wrong, _ := code.Check(api.Program{})
	checkRefused(t, st, api.Program{}, wrong)

	m, e := vm.New(st, written("*a-"))
	if e != api.OK {
		t.Fatal(e)
	}
	checkStep(t, m, false)
	checkStack(t, m, 1, [][]uint64{{3, 7, 9}})
	checkStep(t, m, false)
	checkStep(t, m, true)
	checkStep(t, m, true)
	checkStack(t, m, 3, [][]uint64{{9}})
}

// The rows of the chapter's table, each by itself and with others.
func TestRows(t *testing.T) {
	st := people(t)
	for text, want := range map[string][]uint64{
		"0": nil, "b": {7}, "0t": nil, "at": nil, "bt": nil, "*tt": {9},
		"a*-": nil, "*b-": {3, 9}, "ab-": {3}, "ba-": nil, "0a-": nil, "a0-": {3, 7}, "**-": nil,
		"ab|": {3, 7}, "*tb|": {7, 9}, "b*t|": {7, 9}, "a0|": {3, 7}, "00|": nil, "aa|": {3, 7},
		"ba&": {7}, "*t*&": {9}, "a0&": nil, "*a&b&": {7}, "a*t&": nil,
		"*ab&-": {3, 9}, "*a-b-": {9}, "*ab--": {7, 9}, "**t-b-": {3}, "ab*t||": {3, 7, 9}, "0ab*&|-": nil, "*****&&&&": {3, 7, 9},
	} {
		checkRunIs(t, st, written(text), want...)
	}
}

// Each kind of fetch, where the store has its index and where it has not.
func TestFetches(t *testing.T) {
	st := emptyStore(t, plainSchema())
	add(t, st, 1, "cn=a", entry("cn|Ann", "sn|abcd", "age|5"))
	add(t, st, math.MaxUint64, "cn=a", entry("sn|Abc|bcd", "age|30"))
	add(t, st, 0, "cn=a", entry("name|Ann", "sn;x|abcde"))
	const last = math.MaxUint64
	for _, x := range []struct {
		c    api.Const
		want []uint64
	}{
		{get(api.GetHave, tSn, ""), []uint64{0, 1, last}}, {get(api.GetHave, tAge, ""), []uint64{1, last}}, {get(api.GetEqual, tCn, "ann"), []uint64{1}}, {get(api.GetEqual, tCn, "Ann"), nil},
		{get(api.GetFrom, tSn, "abcde"), []uint64{0, last}}, {get(api.GetUpTo, tSn, "abcd"), []uint64{1, last}}, {get(api.GetFrom, tSn, ""), []uint64{0, 1, last}}, {get(api.GetUpTo, tSn, ""), nil},
		{get(api.GetPart, tSn, "", "abc", ""), []uint64{0, 1}}, {get(api.GetPart, tSn, "", "", "bcd"), []uint64{1, last}}, {get(api.GetPart, tSn, "", "", "xyz", ""), nil},
	} {
		checkRunIs(t, st, program([]api.Const{x.c}, fetched(0)), x.want...)
	}
	for _, c := range []api.Const{
		get(api.GetHave, tCn, ""), get(api.GetHave, tName, ""), get(api.GetEqual, tName, "ann"), get(api.GetFrom, tCn, "a"), get(api.GetUpTo, tClass, "a"), get(api.GetPart, tAge, "", "123", ""), get(api.GetHave, tPhoto, ""),
		get(api.GetPart, tSn, "", "a", ""), get(api.GetPart, tSn, "", "", ""), get(api.GetHave, types, ""), get(api.GetHave, api.MaxTypes-1, ""),
	} {
		checkRefused(t, st, program([]api.Const{c}, fetched(0)), api.ErrArg)
		checkRefused(t, st, program([]api.Const{keyed("ann"), c, test("(cn=a)")}, opAll, tested(2), fetched(0), opOr, fetched(1), opAnd), api.ErrArg)
		// That no instruction fetches it is enough for it to be let be.
		checkRunIs(t, st, program([]api.Const{c}, opAll), 0, 1, last)
		checkRunIs(t, st, program([]api.Const{c, keyed("ann"), c}, fetched(1)), 1)
	}
}

// P20.1: a store that is not there comes ahead of what is wrong with the program.
func TestNilStore(t *testing.T) {
	var none *store.Store
	for _, p := range append(wrongPrograms()[api.ErrCode], written("*"), written("*a-"), written(""), written("**"), program([]api.Const{get(api.GetHave, tCn, "")}, fetched(0))) {
		checkRefused(t, none, p, api.ErrNil)
		checkRefused(t, store.New(nil), p, api.ErrNil)
	}
}

// wrongPrograms are such that code.Check refuses, by its errors.
func wrongPrograms() map[api.Errno][]api.Program {
	cannot := get(api.GetHave, tCn, "")
	long := strings.Repeat("x", api.MaxText+1)
	out := map[api.Errno][]api.Program{
		api.ErrLong:  {program(nil, make([]api.Instr, api.MaxCode+1)...), program(make([]api.Const, api.MaxCode+1), opAll)},
		api.ErrCode:  {program(nil, op(7)), program(nil, op(255)), program(nil, fetched(0)), program(nil, opAll, tested(0)), program([]api.Const{keyed("a")}, fetched(1)), program([]api.Const{keyed("a")}, fetched(-1)), program(nil, api.Instr{Op: api.OpAll, Arg: 1})},
		api.ErrStack: {written(""), written("&"), written("|"), written("-"), written("t"), written("a|"), written("**"), written("ab"), written("ab|-"), written("t*")},
	}
	for _, c := range []api.Const{get(5, tCn, ""), get(-1, tCn, ""), get(api.GetHave, -1, ""), get(api.GetHave, api.MaxTypes, ""), get(api.GetHave, tSn, "k"), get(api.GetPart, tSn, "", "abc"), {Test: true}, {Test: true, Filter: api.Filter{Kind: api.FHave, Desc: long}}, {Filter: asked("(cn=a)")}} {
		out[api.ErrCode] = append(out[api.ErrCode], program([]api.Const{c}, opAll), program([]api.Const{c}, fetched(0)), program([]api.Const{keyed("a"), c}, opAll, fetched(0), opAnd))
	}
	out[api.ErrCode] = append(out[api.ErrCode], program([]api.Const{test("(cn=a)")}, fetched(0)), program([]api.Const{keyed("a")}, opAll, tested(0)))
	// A fetch that the store cannot beside it makes no difference.
	for e, programs := range out {
		for _, p := range programs[:len(programs):len(programs)] {
			p = program(append(slices.Clone(p.Consts), cannot), slices.Insert(slices.Clone(p.Code), 0, fetched(len(p.Consts)))...)
			if wrong, _ := code.Check(p); wrong == e {
				out[e] = append(out[e], p)
			}
		}
	}
	return out
}

// P20.1: code.Check's errors, each, and ahead of a fetch that the store cannot.
func TestRefused(t *testing.T) {
	stores := []*store.Store{people(t), emptyStore(t, plainSchema())}
	for want, programs := range wrongPrograms() {
		if len(programs) < 4 {
			t.Errorf("only %d programs are %v", len(programs), want)
		}
		for _, p := range programs {
			if e, _ := code.Check(p); e != want {
				t.Fatalf("%s; want %v", shown(p), want)
			}
			for _, st := range stores {
				checkRefused(t, st, p, want)
			}
		}
	}
	// A filter whose kids are its own list.
	self := make([]api.Filter, 1)
	self[0] = api.Filter{Kind: api.FAnd, Kids: self}
	checkRefused(t, stores[0], program([]api.Const{{Test: true, Filter: self[0]}}, opAll, tested(0)), api.ErrCode)
}

// P20.1, P20.4: lists shorter than the workers, an empty one, such as are a little shorter and longer than what workers share out.
func TestListsForWorkers(t *testing.T) {
	for many := range 40 {
		st := crowd(t, many)
		p := program([]api.Const{test("(cn=ann)")}, opAll, tested(0))
		checkRunIs(t, st, p, yes(st, asked("(cn=ann)"), st.Ids())...)
	}
	const most = 300
	st := crowd(t, most)
	for long := 0; long < most; long += 1 + long/6 {
		// The first Test has a list of long numbers, the second one of all, the third one of what both leave.
		consts := []api.Const{test(fmt.Sprintf("(!(age>=%d))", long)), test("(sn=Bob)"), test("(!(|(cn=ann)(sn=Bob)))")}
		p := program(consts, opAll, tested(0), opAll, tested(1), opOr, tested(2), opNothing, tested(0), opOr)
		want := modelRun(t, st, p, func([][]uint64) {})
		for workers := -1; workers <= api.MaxWorkers+1; workers++ {
			checkAnswer(t, st, p, workers, want)
		}
	}
	for _, text := range []string{"(objectClass=*)", "(zz=*)", "(!(zz=*))", "(age<=16)", "(age>=284)", "(|(age=0)(age=299))", "(&(cn=ann)(!(sn=Bob)))"} {
		p := program([]api.Const{test(text)}, opAll, tested(0))
		want := yes(st, asked(text), st.Ids())
		for workers := -1; workers <= api.MaxWorkers+1; workers++ {
			checkAnswer(t, st, p, workers, want)
		}
		checkRun(t, st, p)
	}
}

// P20.3: the most instructions, the most lists, the most constants.
func TestLongPrograms(t *testing.T) {
	if testing.Short() {
		t.Skip("half a million steps")
	}
	st := people(t)
	// Of alternating lists the last one decides.
	long := []api.Instr{opAll}
	for len(long)+4 <= api.MaxCode {
		long = append(long, fetched(0), opLess, opAll, opOr)
	}
	deep := slices.Concat(slices.Repeat([]api.Instr{fetched(0)}, api.MaxCode/2), slices.Repeat([]api.Instr{opAnd}, api.MaxCode/2-1))
	many := slices.Repeat([]api.Const{keyed("ann"), keyed("bob")}, api.MaxCode/2)
	for _, x := range []struct {
		p    api.Program
		want []uint64
	}{
		{program([]api.Const{keyed("ann")}, long...), []uint64{3, 7, 9}}, {program([]api.Const{keyed("ann")}, deep...), []uint64{3, 7}}, {program(many, fetched(0), fetched(api.MaxCode-1), opLess), []uint64{3}},
		{program([]api.Const{test("(cn=ann)")}, append([]api.Instr{opAll}, slices.Repeat([]api.Instr{tested(0)}, 20000)...)...), []uint64{3, 7}},
	} {
		checkAnswer(t, st, x.p, 2, x.want)
		m, e := vm.New(st, x.p)
		if e != api.OK {
			t.Fatal(e)
		}
		for at := range x.p.Code {
			if m.At() != at {
				t.Fatalf("at %d; want %d", m.At(), at)
			}
			checkStep(t, m, at == len(x.p.Code)-1)
		}
		checkStack(t, m, len(x.p.Code), [][]uint64{x.want})
	}
	// One constant that is dear to look at, asked by many instructions.
	dear := get(api.GetPart, tSn, "", slices.Repeat([]string{strings.Repeat("abcdef", 1000)}, 20)...)
	checkAnswer(t, st, program([]api.Const{dear}, append([]api.Instr{opNothing}, slices.Repeat([]api.Instr{fetched(0), opOr}, 20)...)...), 1, nil)
}

// P20.2: a machine that is not there.
func TestNilMachine(t *testing.T) {
	var none *vm.Machine
	for range 2 {
		if last, e := none.Step(); last || e != api.ErrNil {
			t.Errorf("Step: %v, %v", last, e)
		}
		if none.At() != 0 || len(none.Stack()) != 0 {
			t.Errorf("at %d with %v", none.At(), none.Stack())
		}
	}
}

// P20.2: looking at a machine moves nothing; beyond its end nothing is done.
func TestMachineIsLookedAt(t *testing.T) {
	m, e := vm.New(people(t), written("*a-b|"))
	if e != api.OK {
		t.Fatal(e)
	}
	for at, want := range [][][]uint64{{}, {{3, 7, 9}}, {{3, 7, 9}, {3, 7}}, {{9}}, {{9}, {7}}, {{7, 9}}, {{7, 9}}, {{7, 9}}} {
		if at > 0 {
			checkStep(t, m, at >= 5)
		}
		for range 3 {
			checkStack(t, m, min(at, 5), want)
		}
	}
}

// P20.2: a machine sees the store as it was, whatever becomes of it.
func TestMachineSeesTheStoreAsItWas(t *testing.T) {
	st := people(t)
	p := program([]api.Const{keyed("ann"), test("(|(cn:dn:=eve)(cn=bob))"), get(api.GetHave, tSn, "")}, opAll, tested(1), fetched(0), opOr, fetched(2), opLess)
	was := st.Clone()
	changes := []func(){
		func() {
			st.Modify(3, []api.Mod{{Op: api.ModReplace, Attr: api.Attr{Desc: "cn", Values: []string{"x"}}}})
		},
		func() { st.Rename(9, called("cn=x")) },
		func() {
			st.Modify(9, []api.Mod{{Op: api.ModReplace, Attr: api.Attr{Desc: "cn", Values: []string{"x"}}}})
		},
		func() { st.Modify(7, []api.Mod{{Op: api.ModAdd, Attr: api.Attr{Desc: "sn", Values: []string{"x"}}}}) },
		func() { st.Add(5, called("cn=eve"), entry("cn|Ann")) },
		func() { st.Add(100, called("cn=ann"), entry("cn|Ann", "sn|x")) },
		func() { st.Delete(7) },
		func() { st.Delete(3) },
		func() { st.Delete(9); st.Delete(5); st.Delete(100) },
		func() { st.Add(3, called("cn=q"), entry("cn|Bob")) },
	}
	// The change comes ahead of each of the steps, and all of them ahead of the first one.
	for ahead := range len(changes) + len(p.Code) {
		m, e := vm.New(st, p)
		if e != api.OK {
			t.Fatal(e)
		}
		was = st.Clone()
		at := 0
		modelRun(t, was, p, func(stack [][]uint64) {
			if at > 0 {
				checkStep(t, m, at == len(p.Code))
			}
			checkStack(t, m, at, stack)
			if at < len(changes) && (at+ahead)%2 == 0 {
				changes[(at+ahead)%len(changes)]()
			}
			at++
		})
		checkRun(t, st, p)
	}
	machines := map[*vm.Machine]*store.Store{}
	for _, change := range changes {
		m, _ := vm.New(st, p)
		machines[m] = st.Clone()
		change()
	}
	for _, id := range st.Ids() {
		st.Delete(id)
	}
	for m, was := range machines {
		at := 0
		modelRun(t, was, p, func(stack [][]uint64) {
			if at > 0 {
				m.Step()
			}
			checkStack(t, m, at, stack)
			at++
		})
	}
}

// R2: two machines over one store, and Run between their steps, know nothing of one another.
func TestTwoMachines(t *testing.T) {
	st := people(t)
	a, _ := vm.New(st, written("*a-t"))
	b, _ := vm.New(st, written("ab&*|"))
	checkStep(t, a, false)
	checkStack(t, b, 0, nil)
	checkStep(t, b, false)
	checkRunIs(t, st, written("*t"), 9)
	checkStep(t, b, false)
	checkStack(t, a, 1, [][]uint64{{3, 7, 9}})
	checkStack(t, b, 2, [][]uint64{{3, 7}, {7}})
	for range 3 {
		a.Step()
	}
	checkStack(t, a, 4, [][]uint64{{9}})
	checkStep(t, b, false)
	checkStack(t, b, 3, [][]uint64{{7}})
	checkStep(t, b, false)
	checkStep(t, b, true)
	checkStack(t, b, 5, [][]uint64{{3, 7, 9}})
}
