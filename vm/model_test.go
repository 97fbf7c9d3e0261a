package vm_test

import (
	"fmt"
	"math"
	"math/rand"
	"slices"
	"strings"
	"testing"

	"roster/api"
	"roster/code"
	"roster/filter"
	"roster/name"
	"roster/schema"
	"roster/store"
	"roster/text"
	"roster/vm"
)

// The places of plainSchema's types.
const (
	tClass = iota
	tName
	tCn
	tSn
	tAge
	tPhoto
	tDigits
	tMixed
	types
)

const allBits = api.IxHave | api.IxEqual | api.IxOrder | api.IxPart

// plainSchema has types with all bits, some and none, and one class that lets all of them be.
func plainSchema() api.Schema {
	return api.Schema{
		Types: []api.Type{
			tClass:  {Oid: "2.5.4.0", Names: []string{"objectClass"}, Syntax: api.SynOid, Equal: api.RuleOid, Index: api.IxHave | api.IxEqual},
			tName:   {Oid: "2.5.4.41", Names: []string{"name"}, Equal: api.RuleFold, Order: api.RuleFoldOrder, Part: api.RuleFoldPart},
			tCn:     {Oid: "2.5.4.3", Names: []string{"cn", "commonName"}, Sup: "name", Index: api.IxEqual | api.IxPart},
			tSn:     {Oid: "2.5.4.4", Names: []string{"sn"}, Sup: "name", Equal: api.RuleExact, Order: api.RuleExactOrder, Part: api.RuleExactPart, Index: allBits},
			tAge:    {Oid: "1.1", Names: []string{"age"}, Syntax: api.SynNumber, Equal: api.RuleNumber, Order: api.RuleNumberOrder, Index: api.IxHave | api.IxEqual | api.IxOrder},
			tPhoto:  {Oid: "1.2", Names: []string{"photo"}, Syntax: api.SynBytes},
			tDigits: {Oid: "1.3", Names: []string{"digits"}, Syntax: api.SynDigits, Equal: api.RuleDigits, Order: api.RuleDigitsOrder, Part: api.RuleDigitsPart, Index: allBits},
			tMixed:  {Oid: "1.4", Names: []string{"mixed"}, Equal: api.RuleExact, Order: api.RuleFoldOrder, Part: api.RuleFoldPart, Index: allBits},
		},
		Classes: []api.Class{{Oid: "2.5.6.6", Names: []string{"person"}, Kind: api.ClStructural, May: []string{"name", "cn", "sn", "age", "photo", "digits", "mixed"}}},
	}
}

func emptyStore(t testing.TB, plain api.Schema) *store.Store {
	t.Helper()
	s, e, at := schema.New(plain)
	if e != api.OK {
		t.Fatalf("the schema is refused: %v at %d", e, at)
	}
	return store.New(s)
}

// entry is a person with attributes, each a description and values parted by |.
func entry(attrs ...string) api.Entry {
	e := api.Entry{Attrs: []api.Attr{{Desc: "objectClass", Values: []string{"person"}}}}
	for _, attr := range attrs {
		words := strings.Split(attr, "|")
		e.Attrs = append(e.Attrs, api.Attr{Desc: words[0], Values: words[1:]})
	}
	return e
}

// called is the name of a text.
func called(text string) api.Name {
	n, err := name.Parse(text)
	if err != nil {
		panic(err)
	}
	return n
}

func add(t testing.TB, st *store.Store, id uint64, n string, e api.Entry) {
	t.Helper()
	if wrong, at := st.Add(id, called(n), e); wrong != api.OK {
		t.Fatalf("%v is refused: %v at %d", e, wrong, at)
	}
}

// people are the three of the chapter's examples.
func people(t testing.TB) *store.Store {
	t.Helper()
	st := emptyStore(t, plainSchema())
	add(t, st, 9, "cn=eve", entry("cn|Eve"))
	add(t, st, 3, "cn=ann", entry("cn|ann"))
	add(t, st, 7, "cn=bob", entry("cn|Ann|Bob"))
	return st
}

// crowd is so many: every other one has the cn Ann, each third Bob, each an age of its own.
func crowd(t testing.TB, many int) *store.Store {
	t.Helper()
	st := emptyStore(t, plainSchema())
	for i := range many {
		e := entry(fmt.Sprint("age|", i))
		if i%2 == 0 {
			e.Attrs = append(e.Attrs, api.Attr{Desc: "cn", Values: []string{"Ann"}})
		}
		if i%3 == 0 {
			e.Attrs = append(e.Attrs, api.Attr{Desc: "sn", Values: []string{"Bob"}})
		}
		add(t, st, uint64(7*i+1), "cn=a", e)
	}
	return st
}

// asked is the filter of a text.
func asked(words string) api.Filter {
	f, err := text.Parse(words)
	if err != nil {
		panic(err)
	}
	return f
}

// Programs.

func op(op uint8) api.Instr { return api.Instr{Op: op} }

func fetched(place int) api.Instr { return api.Instr{Op: api.OpFetch, Arg: place} }

func tested(place int) api.Instr { return api.Instr{Op: api.OpTest, Arg: place} }

var (
	opNothing, opAll    = op(api.OpNothing), op(api.OpAll)
	opAnd, opOr, opLess = op(api.OpAnd), op(api.OpOr), op(api.OpLess)
)

func get(kind int8, place int, key string, pieces ...string) api.Const {
	return api.Const{Fetch: api.Fetch{Kind: kind, Type: place, Key: key, Pieces: pieces}}
}

// keyed is the fetch of a key of cn.
func keyed(key string) api.Const { return get(api.GetEqual, tCn, key) }

// test is the constant of a filter's text.
func test(text string) api.Const { return api.Const{Test: true, Filter: asked(text)} }

func program(consts []api.Const, instrs ...api.Instr) api.Program {
	return api.Program{Code: instrs, Consts: consts}
}

// written is code over the constants of the chapter's examples: a and b fetch ann and bob, t tests (cn=eve), 0 is nothing, * all, & | - are and, or, less.
func written(text string) api.Program {
	p := program([]api.Const{keyed("ann"), keyed("bob"), test("(cn=eve)")})
	for _, c := range text {
		p.Code = append(p.Code, map[rune]api.Instr{'a': fetched(0), 'b': fetched(1), 't': tested(2), '0': opNothing, '*': opAll, '&': opAnd, '|': opOr, '-': opLess}[c])
	}
	return p
}

// joined is the one program, the other one behind it, and an instruction.
func joined(a, b api.Program, last api.Instr) api.Program {
	out := api.Program{Code: slices.Clone(a.Code), Consts: slices.Concat(a.Consts, b.Consts)}
	for _, i := range b.Code {
		if i.Op == api.OpFetch || i.Op == api.OpTest {
			i.Arg += len(a.Consts)
		}
		out.Code = append(out.Code, i)
	}
	out.Code = append(out.Code, last)
	return out
}

// spoken is a filter's text.
func spoken(f api.Filter) string {
	out, _ := text.Print(f)
	return brief(out)
}

func brief(text string) string {
	if len(text) > 1000 {
		return fmt.Sprintf("%s.. (%d bytes)", text[:1000], len(text))
	}
	return text
}

func shown(p api.Program) string {
	if e, _ := code.Check(p); e != api.OK {
		return fmt.Sprintf("a program of %d instructions and %d constants that is %v", len(p.Code), len(p.Consts), e)
	}
	out := code.Show(p)
	for _, c := range p.Consts[:min(len(p.Consts), 20)] {
		if c.Test {
			out += " " + spoken(c.Filter)
		}
	}
	return brief(strings.ReplaceAll(out, "\n", ", "))
}

// What the chapter's words say.

// modelCheck goes by P20.1's words: why a program is not run.
func modelCheck(st *store.Store, p api.Program) api.Errno {
	if st == nil {
		return api.ErrNil
	}
	if e, _ := code.Check(p); e != api.OK {
		return e
	}
	for _, i := range p.Code {
		if i.Op == api.OpFetch && !st.Can(p.Consts[i.Arg].Fetch) {
			return api.ErrArg
		}
	}
	return api.OK
}

// modelRun goes by the rows of the chapter's table, of a program that is run; each is told the stack ahead of the first instruction and behind each one.
func modelRun(t testing.TB, st *store.Store, p api.Program, each func(stack [][]uint64)) []uint64 {
	t.Helper()
	var stack [][]uint64
	each(stack)
	for _, i := range p.Code {
		var top []uint64
		switch i.Op {
		case api.OpNothing:
		case api.OpAll:
			top = st.Ids()
		case api.OpFetch:
			var e api.Errno
			if top, e = st.Fetch(p.Consts[i.Arg].Fetch); e != api.OK {
				t.Fatalf("a fetch is refused: %v", e)
			}
		case api.OpTest:
			top = yes(st, p.Consts[i.Arg].Filter, stack[len(stack)-1])
			stack = stack[:len(stack)-1]
		default:
			a, b := stack[len(stack)-2], stack[len(stack)-1]
			stack = stack[:len(stack)-2]
			in := map[uint64]int{}
			for _, id := range a {
				in[id]++
			}
			for _, id := range b {
				in[id] += 2
			}
			for id, where := range in {
				if i.Op == api.OpAnd && where == 3 || i.Op == api.OpOr || i.Op == api.OpLess && where == 1 {
					top = append(top, id)
				}
			}
			slices.Sort(top)
		}
		stack = append(stack, top)
		each(stack)
	}
	if len(stack) != 1 {
		t.Fatalf("%d lists are left", len(stack))
	}
	return stack[0]
}

// yes are those of the numbers of whose records f is Yes.
func yes(st *store.Store, f api.Filter, ids []uint64) []uint64 {
	var out []uint64
	for _, id := range ids {
		if r, e := st.Get(id); e == api.OK && filter.Says(st.Schema(), f, r) == api.Yes {
			out = append(out, id)
		}
	}
	return out
}

// someWorkers are such as may be, and such as are brought to where they may.
var someWorkers = []int{1, 2, 3, 7, api.MaxWorkers, 0, -1, api.MaxWorkers + 1, 1000, math.MaxInt, math.MinInt}

// checkRun holds Run, by some workers, and a machine that is stepped against the model.
func checkRun(t testing.TB, st *store.Store, p api.Program) []uint64 {
	t.Helper()
	if want := modelCheck(st, p); want != api.OK {
		checkRefused(t, st, p, want)
		return nil
	}
	want := modelRun(t, st, p, func([][]uint64) {})
	for _, workers := range []int{1, 5, api.MaxWorkers} {
		checkAnswer(t, st, p, workers, want)
	}
	checkSteps(t, st, p)
	return want
}

// checkRunIs holds Run against what is wanted, by all of someWorkers.
func checkRunIs(t testing.TB, st *store.Store, p api.Program, want ...uint64) {
	t.Helper()
	if got := checkRun(t, st, p); !slices.Equal(got, want) {
		t.Errorf("Run(%s): %v; want %v", shown(p), got, want)
	}
	for _, workers := range someWorkers {
		checkAnswer(t, st, p, workers, want)
	}
}

// checkAnswer: P20.1, P20.5.
func checkAnswer(t testing.TB, st *store.Store, p api.Program, workers int, want []uint64) {
	t.Helper()
	ids, steps, e := vm.Run(st, p, workers)
	if !slices.Equal(ids, want) || steps != len(p.Code) || e != api.OK {
		t.Errorf("Run(%s) by %d workers: %v, %d steps, %v; want %v, %d steps", shown(p), workers, ids, steps, e, want, len(p.Code))
	}
	there := st.Ids()
	for at, id := range ids {
		if _, is := slices.BinarySearch(there, id); !is || at > 0 && ids[at-1] >= id {
			t.Errorf("Run(%s) answers %v", shown(p), ids)
			return
		}
	}
}

// checkSteps: P20.2, P20.3.
func checkSteps(t testing.TB, st *store.Store, p api.Program) {
	t.Helper()
	m, e := vm.New(st, p)
	if m == nil || e != api.OK {
		t.Errorf("New(%s): %v", shown(p), e)
		return
	}
	done := 0
	want := modelRun(t, st, p, func(stack [][]uint64) {
		if done > 0 {
			checkStep(t, m, done == len(p.Code))
		}
		checkStack(t, m, done, stack)
		done++
	})
	for range 3 {
		checkStep(t, m, true)
		checkStack(t, m, len(p.Code), [][]uint64{want})
	}
}

func checkStep(t testing.TB, m *vm.Machine, want bool) {
	t.Helper()
	if last, e := m.Step(); last != want || e != api.OK {
		t.Errorf("Step: %v, %v; want %v", last, e, want)
	}
}

func checkStack(t testing.TB, m *vm.Machine, at int, want [][]uint64) {
	t.Helper()
	if got := m.Stack(); m.At() != at || !slices.EqualFunc(got, want, slices.Equal[[]uint64]) {
		t.Errorf("at %d with the stack %v; want %d, %v", m.At(), got, at, want)
	}
}

// checkRefused: P20.1, P20.2: an error, and nothing beside it.
func checkRefused(t testing.TB, st *store.Store, p api.Program, want api.Errno) {
	t.Helper()
	for _, workers := range someWorkers {
		if ids, steps, e := vm.Run(st, p, workers); len(ids) > 0 || steps != 0 || e != want {
			t.Errorf("Run(%s) by %d workers: %v, %d steps, %v; want %v", shown(p), workers, ids, steps, e, want)
		}
	}
	if m, e := vm.New(st, p); m != nil || e != want {
		t.Errorf("New(%s): %v, %v; want %v", shown(p), m, e, want)
	}
}

// told is all that a store tells of its records.
func told(st *store.Store) string {
	out := fmt.Sprint(st.Ids(), st.Len())
	for _, id := range st.Ids() {
		r, e := st.Get(id)
		out += fmt.Sprintf(" %d %q %q %v", r.Id, r.Name, r.Entry, e)
	}
	return out
}

// Things by chance, always the same ones.

type dice struct{ *rand.Rand }

func diceOf(seed int64) dice { return dice{rand.New(rand.NewSource(seed))} }

func oneOf[T any](d dice, of ...T) T { return of[d.Intn(len(of))] }

func (d dice) desc() string {
	return oneOf(d, "cn", "cn", "CN", "2.5.4.3", "cn;x", "name", "name;x", "sn", "sn", "sn;y", "age", "age", "1.1", "age;x", "photo", "digits", "digits;x", "mixed", "mixed;x", "objectClass", "zz", "9.9;x")
}

// value is mostly one that fits the description's type; many are alike.
func (d dice) value(s *schema.Schema, desc string) string {
	texts := []string{"Ann", "ann", " ANN ", "Bob", "abc", "abcx", "x abc", "a", "ab", "é"}
	place, _, e := s.Desc(desc)
	if e != api.OK || d.Intn(20) == 0 {
		return oneOf(d, append(texts, "5", "", "\xff")...)
	}
	switch s.Full(place).Syntax {
	case api.SynNumber:
		return oneOf(d, "0", "5", "-20", "100")
	case api.SynDigits:
		return oneOf(d, "1234", "12 34", "123 45", "12")
	case api.SynOid:
		return oneOf(d, "person", "2.5.6.6", "cn", "nobody")
	}
	return oneOf(d, texts...)
}

func (d dice) item(s *schema.Schema) api.Filter {
	desc := d.desc()
	kind := oneOf[int8](d, api.FEqual, api.FEqual, api.FEqual, api.FPart, api.FMore, api.FLess, api.FHave, api.FLike, api.FRule)
	switch kind {
	case api.FHave:
		return api.Filter{Kind: kind, Desc: desc}
	case api.FPart:
		f := api.Filter{Kind: kind, Desc: desc, Start: oneOf(d, "a", "Ab", " abc", "12", "x"), End: oneOf(d, "", "c", "bc", "34")}
		for range d.Intn(3) {
			f.Middles = append(f.Middles, oneOf(d, "b", "abc", "234", "bc", "N"))
		}
		return f
	case api.FRule:
		f := api.Filter{Kind: kind, Desc: desc, Rule: oneOf(d, "", "caseIgnoreMatch", "caseExactMatch", "integerMatch", "noMatch"), Value: d.value(s, desc), Dn: d.Intn(3) == 0}
		if f.Rule != "" && d.Intn(4) == 0 {
			f.Desc = ""
		}
		return f
	}
	return api.Filter{Kind: kind, Desc: desc, Value: d.value(s, desc)}
}

// filter may be, and is at most so deep.
func (d dice) filter(s *schema.Schema, deep int) api.Filter {
	if deep <= 1 || d.Intn(5) == 0 {
		return d.item(s)
	}
	f := api.Filter{Kind: oneOf[int8](d, api.FAnd, api.FAnd, api.FOr, api.FOr, api.FNot)}
	many := 1
	if f.Kind != api.FNot {
		many += d.Intn(4)
	}
	for range many {
		f.Kids = append(f.Kids, d.filter(s, deep-1))
	}
	return f
}

// schema has some of plainSchema's types: of the ways to ask for them by indexes all, some, or none.
func (d dice) schema() api.Schema {
	plain := plainSchema()
	keep := plain.Types[:tSn:tSn]
	for _, kind := range plain.Types[tSn:] {
		if d.Intn(5) > 0 {
			keep = append(keep, kind)
		}
	}
	often := d.Intn(4)
	var may []string
	for i := range keep {
		switch {
		case often == 0:
			keep[i].Index = 0
		case often == 1:
			keep[i].Index |= api.IxHave
		default:
			keep[i].Index = (keep[i].Index | api.IxHave) & uint8(d.Intn(16)|d.Intn(16))
		}
		if i != tClass {
			may = append(may, keep[i].Names[0])
		}
	}
	plain.Types, plain.Classes[0].May = keep, may
	return plain
}

// entry may be one that the schema refuses.
func (d dice) entry(s *schema.Schema) api.Entry {
	e := entry()
	for range d.Intn(6) {
		e.Attrs = append(e.Attrs, d.attr(s))
	}
	return e
}

func (d dice) attr(s *schema.Schema) api.Attr {
	desc := d.desc()
	return api.Attr{Desc: desc, Values: []string{d.value(s, desc)}}
}

func (d dice) name() api.Name {
	return oneOf(d, called("cn=a"), called("cn=Ann,sn=abc"), called("sn=Bob+cn=ann"), called("age=5,cn=x abc"), called("mixed=Ann"), called("zz=a"), api.Name{}, api.Name{Rdns: []api.Rdn{{}}})
}

// change is one call that changes a store, or is refused.
func (d dice) change(st *store.Store) api.Errno {
	s, id := st.Schema(), uint64(d.Intn(60))
	switch d.Intn(6) {
	case 0, 1, 2:
		e, _ := st.Add(id, d.name(), d.entry(s))
		return e
	case 3:
		return st.Delete(id)
	case 4:
		return st.Rename(id, d.name())
	}
	var mods []api.Mod
	for range 1 + d.Intn(3) {
		mods = append(mods, api.Mod{Op: int8(d.Intn(5)), Attr: d.attr(s)})
	}
	e, _ := st.Modify(id, mods)
	return e
}

// store is what so many calls make of one.
func (d dice) store(t testing.TB, calls int) *store.Store {
	t.Helper()
	st := emptyStore(t, d.schema())
	for range calls {
		d.change(st)
	}
	return st
}

// fetch may be, and is mostly one that the store can.
func (d dice) fetch(st *store.Store) api.Const {
	var c api.Const
	for range 20 {
		kind := int8(d.Intn(api.GetPart + 1))
		c = get(kind, d.Intn(types), "")
		switch kind {
		case api.GetEqual, api.GetFrom, api.GetUpTo:
			c.Fetch.Key = oneOf(d, "", "a", "ann", "Ann", "bob", "abc", "1234", "p\x00\x00\x00\x015", "\xff")
		case api.GetPart:
			c.Fetch.Pieces = oneOf(d, []string{"ann", ""}, []string{"", "abc", ""}, []string{"a", "bc"}, []string{"", "34"}, []string{"ab", "", "c"})
		}
		if st.Can(c.Fetch) {
			break
		}
	}
	return c
}

// program leaves one list; that its fetches can be asked is not sure.
func (d dice) program(st *store.Store, long int) api.Program {
	var p api.Program
	for range 1 + d.Intn(6) {
		if d.Intn(2) == 0 {
			p.Consts = append(p.Consts, d.fetch(st))
		} else {
			p.Consts = append(p.Consts, api.Const{Test: true, Filter: d.filter(st.Schema(), 1+d.Intn(3))})
		}
	}
	lists := 0
	for len(p.Code) < long || lists != 1 {
		i := d.instr(p, lists)
		if len(p.Code) >= long && lists > 1 {
			i = oneOf(d, opAnd, opOr, opOr, opLess)
		}
		p.Code = append(p.Code, i)
		switch i.Op {
		case api.OpAnd, api.OpOr, api.OpLess:
			lists--
		case api.OpNothing, api.OpAll, api.OpFetch:
			lists++
		}
	}
	return p
}

// instr may stand where so many lists are on the stack.
func (d dice) instr(p api.Program, lists int) api.Instr {
	place := d.Intn(len(p.Consts))
	if lists > 1 && d.Intn(2) == 0 {
		return oneOf(d, opAnd, opOr, opOr, opLess)
	}
	switch {
	case p.Consts[place].Test && lists > 0:
		return tested(place)
	case p.Consts[place].Test:
		return opAll
	}
	return oneOf(d, fetched(place), fetched(place), fetched(place), opAll, opNothing)
}

// spoilt has something else at some place.
func (d dice) spoilt(p api.Program) api.Program {
	p.Code, p.Consts = slices.Clone(p.Code), slices.Clone(p.Consts)
	at, place := d.Intn(len(p.Code)), d.Intn(len(p.Consts))
	switch d.Intn(7) {
	case 0:
		p.Code[at].Op = uint8(d.Intn(256))
	case 1:
		p.Code[at].Op = uint8(d.Intn(7))
	case 2:
		p.Code[at].Arg = oneOf(d, -1, 0, 1, len(p.Consts), math.MaxInt, math.MinInt)
	case 3:
		p.Code = slices.Delete(p.Code, at, at+1)
	case 4:
		p.Code = slices.Insert(p.Code, at, oneOf(d, opNothing, opAll, opAnd, opLess, fetched(place), tested(place)))
	case 5:
		p.Consts[place].Test = !p.Consts[place].Test
	case 6:
		p.Consts[place] = oneOf(d, api.Const{}, api.Const{Test: true}, get(5, 0, ""), get(api.GetHave, types, ""), get(api.GetHave, api.MaxTypes, ""), get(api.GetPart, tSn, "", "a"), test("(cn=a)"))
	}
	return p
}

var someGuesses = []float64{math.NaN(), math.Inf(1), math.Inf(-1), -1, 0, math.Copysign(0, -1), 1, 2, 16, 17, 1e308, 5e-324}

// guesses are of every kind: the store's own counts, the same for all, one for each fetch, another one each time.
func (d dice) guesses() func(q api.Fetch) float64 {
	switch d.Intn(4) {
	case 0:
		return nil
	case 1:
		guess := oneOf(d, someGuesses...)
		return func(api.Fetch) float64 { return guess }
	case 2:
		return func(api.Fetch) float64 { return oneOf(d, someGuesses...) }
	}
	told := map[string]float64{}
	return func(q api.Fetch) float64 {
		key := fmt.Sprint(q)
		if _, is := told[key]; !is {
			told[key] = oneOf(d, append(someGuesses, float64(d.Intn(60)))...)
		}
		return told[key]
	}
}
