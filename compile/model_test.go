package compile_test

import (
	"fmt"
	"math"
	"math/rand"
	"slices"
	"strconv"
	"strings"
	"testing"

	"roster/api"
	"roster/code"
	"roster/compile"
	"roster/cost"
	"roster/filter"
	"roster/name"
	"roster/schema"
	"roster/shape"
	"roster/store"
)

// The places of plainSchema's types.
const (
	tClass = iota
	tName
	tCn
	tSn
	tAge
	tPhoto
	tDigits
	tMixed
)

const allBits = api.IxHave | api.IxEqual | api.IxOrder | api.IxPart

// plainSchema has types with all bits, some and none, and one class that lets all of them be.
func plainSchema() api.Schema {
	return api.Schema{
		Types: []api.Type{
			tClass:  {Oid: "2.5.4.0", Names: []string{"objectClass"}, Syntax: api.SynOid, Equal: api.RuleOid, Index: api.IxHave | api.IxEqual},
			tName:   {Oid: "2.5.4.41", Names: []string{"name"}, Equal: api.RuleFold, Order: api.RuleFoldOrder, Part: api.RuleFoldPart},
			tCn:     {Oid: "2.5.4.3", Names: []string{"cn", "commonName"}, Sup: "name", Index: api.IxEqual | api.IxPart},
			tSn:     {Oid: "2.5.4.4", Names: []string{"sn"}, Sup: "name", Equal: api.RuleExact, Order: api.RuleExactOrder, Part: api.RuleExactPart, Index: allBits},
			tAge:    {Oid: "1.1", Names: []string{"age"}, Syntax: api.SynNumber, Equal: api.RuleNumber, Order: api.RuleNumberOrder, Index: api.IxHave | api.IxEqual | api.IxOrder},
			tPhoto:  {Oid: "1.2", Names: []string{"photo"}, Syntax: api.SynBytes},
			tDigits: {Oid: "1.3", Names: []string{"digits"}, Syntax: api.SynDigits, Equal: api.RuleDigits, Order: api.RuleDigitsOrder, Part: api.RuleDigitsPart, Index: allBits},
			tMixed:  {Oid: "1.4", Names: []string{"mixed"}, Equal: api.RuleExact, Order: api.RuleFoldOrder, Part: api.RuleFoldPart, Index: allBits},
		},
		Classes: []api.Class{{Oid: "2.5.6.6", Names: []string{"person"}, Kind: api.ClStructural, May: []string{"name", "cn", "sn", "age", "photo", "digits", "mixed"}}},
	}
}

func schemaOf(t testing.TB, plain api.Schema) *schema.Schema {
	t.Helper()
	s, e, at := schema.New(plain)
	if e != api.OK {
		t.Fatalf("the schema is refused: %v at %d", e, at)
	}
	return s
}

// entry is a person with attributes, each a description and values parted by |.
func entry(attrs ...string) api.Entry {
	e := api.Entry{Attrs: []api.Attr{{Desc: "objectClass", Values: []string{"person"}}}}
	for _, attr := range attrs {
		words := strings.Split(attr, "|")
		e.Attrs = append(e.Attrs, api.Attr{Desc: words[0], Values: words[1:]})
	}
	return e
}

func called(t testing.TB, text string) api.Name {
	t.Helper()
	n, err := name.Parse(text)
	if err != nil {
		t.Fatal(err)
	}
	return n
}

// storeOf has the entries by the numbers 3, 7, 11 and so on.
func storeOf(t testing.TB, plain api.Schema, entries ...api.Entry) *store.Store {
	t.Helper()
	out := store.New(schemaOf(t, plain))
	for i, e := range entries {
		if wrong, at := out.Add(uint64(3+4*i), called(t, "cn=n"+strconv.Itoa(i)), e); wrong != api.OK {
			t.Fatalf("%v is refused: %v at %d", e, wrong, at)
		}
	}
	return out
}

// people are four: Ann twice, Bob and Eve.
func people(t testing.TB) *store.Store {
	t.Helper()
	return storeOf(t, plainSchema(), entry("cn|Ann", "age|30", "digits|12345"), entry("cn|Bob|ann", "sn|Low"), entry("cn|Eve", "age|4"), entry("name|Abel", "age|77|3"))
}

// Filters.

func item(kind int8, desc, value string) api.Filter {
	return api.Filter{Kind: kind, Desc: desc, Value: value}
}

func equal(desc, value string) api.Filter { return item(api.FEqual, desc, value) }

func have(desc string) api.Filter { return item(api.FHave, desc, "") }

// pieces has a start, middles and an end, parted by *.
func pieces(desc, text string) api.Filter {
	all := strings.Split(text, "*")
	return api.Filter{Kind: api.FPart, Desc: desc, Start: all[0], Middles: all[1 : len(all)-1], End: all[len(all)-1]}
}

func and(kids ...api.Filter) api.Filter { return api.Filter{Kind: api.FAnd, Kids: kids} }

func or(kids ...api.Filter) api.Filter { return api.Filter{Kind: api.FOr, Kids: kids} }

func not(kid api.Filter) api.Filter { return api.Filter{Kind: api.FNot, Kids: []api.Filter{kid}} }

// within is f in so many of a kind, one in the other.
func within(kind int8, many int, f api.Filter) api.Filter {
	for range many {
		f = api.Filter{Kind: kind, Kids: []api.Filter{f}}
	}
	return f
}

var (
	ann   = equal("cn", "Ann")
	bob   = equal("cn", "Bob")
	eve   = equal("cn", "Eve")
	annX  = equal("cn;x", "Ann")
	named = equal("name", "Ann")
	void  = equal("zz", "x")
)

// refusedFilters may not be, with the error that filter.Check tells.
func refusedFilters() map[api.Errno][]api.Filter {
	long := strings.Repeat("x", api.MaxText+1)
	self := make([]api.Filter, 1)
	self[0] = api.Filter{Kind: api.FOr, Kids: self}
	return map[api.Errno][]api.Filter{
		api.ErrFilter: {{}, or(), {Kind: api.FNot}, {Kind: -1}, {Kind: 10, Desc: "cn"}, have(""), have("c n"), item(api.FHave, "cn", "x"), pieces("cn", "*"), and(have("cn"), or()), or(void, api.Filter{}), not(and())},
		api.ErrLong:   {equal("cn", long), have(long), not(equal("zz", long)), or(slices.Repeat([]api.Filter{void}, api.MaxNodes)...)},
		api.ErrDeep:   {within(api.FNot, 64, ann), within(api.FAnd, 1000, void), self[0]},
	}
}

// Plans.

var (
	none = api.Plan{How: api.PlNothing}
	all  = api.Plan{How: api.PlAll}
)

func fetch(kind int8, place int, key string, pieces ...string) api.Plan {
	return api.Plan{How: api.PlFetch, Fetch: api.Fetch{Kind: kind, Type: place, Key: key, Pieces: pieces}}
}

// keyed is the fetch of a key of cn.
func keyed(key string) api.Plan { return fetch(api.GetEqual, tCn, key) }

func test(f api.Filter, kid api.Plan) api.Plan {
	return api.Plan{How: api.PlTest, Filter: f, Kids: []api.Plan{kid}}
}

func joint(how int8, kids ...api.Plan) api.Plan { return api.Plan{How: how, Kids: kids} }

func both(kids ...api.Plan) api.Plan { return joint(api.PlAnd, kids...) }

func either(kids ...api.Plan) api.Plan { return joint(api.PlOr, kids...) }

func less(kids ...api.Plan) api.Plan { return joint(api.PlLess, kids...) }

// Programs.

func op(op uint8) api.Instr { return api.Instr{Op: op} }

func get(place int) api.Instr { return api.Instr{Op: api.OpFetch, Arg: place} }

func tested(place int) api.Instr { return api.Instr{Op: api.OpTest, Arg: place} }

var (
	opNothing, opAll     = op(api.OpNothing), op(api.OpAll)
	opAnd, opOr, opLess  = op(api.OpAnd), op(api.OpOr), op(api.OpLess)
	p, q, r              = keyed("p"), fetch(api.GetPart, tSn, "", "a", "b", "c"), fetch(api.GetFrom, tAge, "17")
	nothingAtAll         = api.Program{Code: []api.Instr{opNothing}}
	someGuesses          = []float64{math.NaN(), math.Inf(1), math.Inf(-1), -1, 0, math.Copysign(0, -1), 1, 2, 16, 17, 1e308, 5e-324}
	manyGuesses, fewOnes = constantly(1e9), constantly(1)
)

func program(consts []api.Const, instrs ...api.Instr) api.Program {
	return api.Program{Code: instrs, Consts: consts}
}

// consts are those of plans that are fetches, and of filters.
func consts(of ...any) []api.Const {
	var out []api.Const
	for _, x := range of {
		switch own := x.(type) {
		case api.Plan:
			out = append(out, api.Const{Fetch: own.Fetch})
		case api.Filter:
			out = append(out, api.Const{Test: true, Filter: own})
		}
	}
	return out
}

func constantly(guess float64) func(api.Fetch) float64 {
	return func(api.Fetch) float64 { return guess }
}

// isSameFetch and the others: lists without anything are the same (R6).
func isSameFetch(a, b api.Fetch) bool {
	return a.Kind == b.Kind && a.Type == b.Type && a.Key == b.Key && slices.Equal(a.Pieces, b.Pieces)
}

func isSameFilter(a, b api.Filter) bool {
	return a.Kind == b.Kind && a.Desc == b.Desc && a.Value == b.Value && a.Start == b.Start && a.End == b.End && a.Rule == b.Rule && a.Dn == b.Dn &&
		slices.Equal(a.Middles, b.Middles) && slices.EqualFunc(a.Kids, b.Kids, isSameFilter)
}

func isSameConst(a, b api.Const) bool {
	return a.Test == b.Test && isSameFetch(a.Fetch, b.Fetch) && isSameFilter(a.Filter, b.Filter)
}

func isSame(a, b api.Program) bool {
	return slices.Equal(a.Code, b.Code) && slices.EqualFunc(a.Consts, b.Consts, isSameConst)
}

// brief cuts what is told where it is long.
func brief(text string) string {
	if len(text) > 500 {
		return fmt.Sprintf("%s.. (%d bytes)", text[:500], len(text))
	}
	return text
}

func shownFilter(f api.Filter) string {
	if f.Kind < api.FAnd || f.Kind > api.FNot {
		return brief(fmt.Sprintf("[%d %q %q %q*%q*%q %q %v]", f.Kind, f.Desc, f.Value, f.Start, f.Middles, f.End, f.Rule, f.Dn))
	}
	if e, _, _ := filter.Check(f); e != api.OK && e != api.ErrFilter {
		return fmt.Sprintf("a filter of kind %d that is %v", f.Kind, e)
	}
	var kids []string
	for _, kid := range f.Kids[:min(len(f.Kids), 10)] {
		kids = append(kids, shownFilter(kid))
	}
	return brief([]string{"And", "Or", "Not"}[f.Kind] + "(" + strings.Join(kids, ", ") + ")")
}

func shownPlan(p api.Plan) string {
	if e, _ := cost.Check(p); e != api.OK && e != api.ErrArg {
		return fmt.Sprintf("a plan of kind %d that is %v", p.How, e)
	}
	var kids []string
	for _, kid := range p.Kids[:min(len(p.Kids), 10)] {
		kids = append(kids, shownPlan(kid))
	}
	return brief(fmt.Sprintf("%d{%d %d %q %q} %s(%s)", p.How, p.Fetch.Kind, p.Fetch.Type, p.Fetch.Key, p.Fetch.Pieces, shownFilter(p.Filter), strings.Join(kids, ", ")))
}

func shown(p api.Program) string {
	text := fmt.Sprint(p.Code[:min(len(p.Code), 100)])
	for _, c := range p.Consts[:min(len(p.Consts), 20)] {
		text += fmt.Sprintf(" {%v %d %d %q %q %s}", c.Test, c.Fetch.Kind, c.Fetch.Type, c.Fetch.Key, c.Fetch.Pieces, shownFilter(c.Filter))
	}
	return fmt.Sprintf("%d instructions, %d constants: %s", len(p.Code), len(p.Consts), brief(text))
}

// What the chapter's words say.

// line is an instruction, and its own constant, if it has one.
type line struct {
	op  uint8
	own []api.Const
}

// linesOf goes by the rows of the chapter's table, of a plan that may be.
func linesOf(p api.Plan) []line {
	var ins []line
	switch p.How {
	case api.PlNothing:
		return []line{{api.OpNothing, nil}}
	case api.PlAll:
		return []line{{api.OpAll, nil}}
	case api.PlFetch:
		return []line{{api.OpFetch, []api.Const{{Fetch: p.Fetch}}}}
	case api.PlTest:
		return append(linesOf(p.Kids[0]), line{api.OpTest, []api.Const{{Test: true, Filter: p.Filter}}})
	case api.PlAnd, api.PlOr:
		ins = linesOf(p.Kids[0])
		for _, further := range p.Kids[1:] {
			ins = append(ins, linesOf(further)...)
			ins = append(ins, line{map[int8]uint8{api.PlAnd: api.OpAnd, api.PlOr: api.OpOr}[p.How], nil})
		}
		return ins
	}
	return slices.Concat(linesOf(p.Kids[0]), linesOf(p.Kids[1]), []line{{api.OpLess, nil}})
}

// modelCompile goes by P19.1's words.
func modelCompile(p api.Plan) (api.Program, api.Errno) {
	if e, _ := cost.Check(p); e != api.OK {
		return api.Program{}, e
	}
	var out api.Program
	for _, l := range linesOf(p) {
		arg := 0
		for _, c := range l.own {
			arg = len(out.Consts)
			out.Consts = append(out.Consts, c)
		}
		out.Code = append(out.Code, api.Instr{Op: l.op, Arg: arg})
	}
	return out, api.OK
}

// modelWhole goes by P19.2's words.
func modelWhole(t *store.Store, f api.Filter, guess func(q api.Fetch) float64) (api.Program, api.Errno) {
	if t == nil {
		return api.Program{}, api.ErrNil
	}
	rest, some, e := shape.Bare(t.Schema(), f)
	if e != api.OK {
		return api.Program{}, e
	}
	if !some {
		return nothingAtAll, api.OK
	}
	if guess == nil {
		guess = func(q api.Fetch) float64 { return float64(t.Count(q)) }
	}
	plan, e := cost.Plan(t.Schema(), rest, func(q api.Fetch) bool { return t.Can(q) }, guess, float64(t.Len()))
	if e != api.OK {
		return api.Program{}, e
	}
	return modelCompile(plan)
}

// nodes are a filter's parts, Nots not counted.
func nodes(f api.Filter) int {
	n := 1
	if f.Kind == api.FNot {
		n = 0
	}
	for _, kid := range f.Kids {
		n += nodes(kid)
	}
	return n
}

// constantParts counts a plan's parts PlFetch and PlTest.
func constantParts(p api.Plan) int {
	n := 0
	if p.How == api.PlFetch || p.How == api.PlTest {
		n = 1
	}
	for _, kid := range p.Kids {
		n += constantParts(kid)
	}
	return n
}

// found runs a program as chapter 20's table says.
func found(t testing.TB, st *store.Store, p api.Program) []uint64 {
	t.Helper()
	var stack [][]uint64
	for _, i := range p.Code {
		var top []uint64
		switch i.Op {
		case api.OpNothing:
		case api.OpAll:
			top = st.Ids()
		case api.OpFetch:
			var e api.Errno
			if top, e = st.Fetch(p.Consts[i.Arg].Fetch); e != api.OK {
				t.Fatalf("a fetch is refused: %v", e)
			}
		case api.OpTest:
			top = yes(st, p.Consts[i.Arg].Filter, stack[len(stack)-1])
			stack = stack[:len(stack)-1]
		default:
			a, b := stack[len(stack)-2], stack[len(stack)-1]
			stack = stack[:len(stack)-2]
			for _, id := range st.Ids() {
				inA, inB := slices.Contains(a, id), slices.Contains(b, id)
				if i.Op == api.OpAnd && inA && inB || i.Op == api.OpOr && (inA || inB) || i.Op == api.OpLess && inA && !inB {
					top = append(top, id)
				}
			}
		}
		stack = append(stack, top)
	}
	if len(stack) != 1 {
		t.Fatalf("%d lists are left", len(stack))
	}
	return stack[0]
}

// yes are those of the numbers of whose records f is Yes.
func yes(st *store.Store, f api.Filter, ids []uint64) []uint64 {
	var out []uint64
	for _, id := range ids {
		if r, _ := st.Get(id); filter.Says(st.Schema(), f, r) == api.Yes {
			out = append(out, id)
		}
	}
	return out
}

// checkCompile holds Compile against the model, its program against P19.3 and P19.4.
func checkCompile(t testing.TB, p api.Plan) {
	t.Helper()
	got, e := compile.Compile(p)
	want, wrong := modelCompile(p)
	if e != wrong || !isSame(got, want) {
		t.Errorf("Compile(%s) is %s, %v; want %s, %v", shownPlan(p), shown(got), e, shown(want), wrong)
		return
	}
	if e != api.OK {
		return
	}
	if e, at := code.Check(got); e != api.OK {
		t.Errorf("Compile(%s) is %s, which is %v at %d", shownPlan(p), shown(got), e, at)
	}
	if len(got.Consts) != constantParts(p) {
		t.Errorf("Compile(%s) has %d constants", shownPlan(p), len(got.Consts))
	}
}

func checkProgram(t testing.TB, p api.Plan, want api.Program) {
	t.Helper()
	if got, e := compile.Compile(p); e != api.OK || !isSame(got, want) {
		t.Errorf("Compile(%s) is %s, %v; want %s", shownPlan(p), shown(got), e, shown(want))
	}
	checkCompile(t, p)
}

func checkRefused(t testing.TB, p api.Plan, want api.Errno) {
	t.Helper()
	if got, e := compile.Compile(p); e != want || !isSame(got, api.Program{}) {
		t.Errorf("Compile(%s) is %s, %v; want %v", shownPlan(p), shown(got), e, want)
	}
}

// checkWhole holds Whole against the model, its program against P19.3, P19.4 and the whole's P1; guess must answer alike each time.
func checkWhole(t testing.TB, st *store.Store, f api.Filter, guess func(q api.Fetch) float64) api.Program {
	t.Helper()
	got, e := compile.Whole(st, f, guess)
	want, wrong := modelWhole(st, f, guess)
	if e != wrong || !isSame(got, want) {
		t.Errorf("Whole(%s) is %s, %v; want %s, %v", shownFilter(f), shown(got), e, shown(want), wrong)
	} else if e == api.OK {
		checkSmall(t, st, f, got)
		checkFinds(t, st, f, got)
	}
	return got
}

func checkWholeIs(t testing.TB, st *store.Store, f api.Filter, guess func(q api.Fetch) float64, want api.Program) {
	t.Helper()
	if got := checkWhole(t, st, f, guess); !isSame(got, want) {
		t.Errorf("Whole(%s) is %s; want %s", shownFilter(f), shown(got), shown(want))
	}
}

// checkSmall: P19.3 and P19.4.
func checkSmall(t testing.TB, st *store.Store, f api.Filter, p api.Program) {
	t.Helper()
	n := nodes(f)
	if e, at := code.Check(p); e != api.OK || len(p.Code) > 4*n+4 || code.Depth(p) > n+1 {
		t.Errorf("Whole(%s) of %d parts is %s: %v at %d, %d lists", shownFilter(f), n, shown(p), e, at, code.Depth(p))
	}
	for _, c := range p.Consts {
		if e, _, _ := filter.Check(c.Filter); c.Test && e != api.OK || !c.Test && !st.Can(c.Fetch) {
			t.Errorf("Whole(%s) is %s", shownFilter(f), shown(p))
		}
	}
}

// checkFinds: P1 and P2 of the whole.
func checkFinds(t testing.TB, st *store.Store, f api.Filter, p api.Program) {
	t.Helper()
	if got, want := found(t, st, p), yes(st, f, st.Ids()); !slices.Equal(got, want) {
		t.Errorf("Whole(%s) is %s, which finds %v; want %v", shownFilter(f), shown(p), got, want)
	}
}

// Things by chance, always the same ones.

type dice struct{ *rand.Rand }

func diceOf(seed int64) dice { return dice{rand.New(rand.NewSource(seed))} }

func oneOf[T any](d dice, of ...T) T { return of[d.Intn(len(of))] }

func (d dice) desc() string {
	return oneOf(d, "cn", "cn", "CN", "2.5.4.3", "cn;x", "name", "name;x", "sn", "sn", "sn;y", "age", "age", "1.1", "age;x", "photo", "digits", "digits;x", "mixed", "mixed;x", "objectClass", "zz", "9.9;x")
}

// value is mostly one that fits the description's type; many are alike.
func (d dice) value(s *schema.Schema, desc string) string {
	texts := []string{"Ann", "ann", " ANN ", "Bob", "abc", "abcx", "x abc", "a", "ab", "é"}
	place, _, e := s.Desc(desc)
	if e != api.OK || d.Intn(20) == 0 {
		return oneOf(d, append(texts, "5", "", "\xff")...)
	}
	switch s.Full(place).Syntax {
	case api.SynNumber:
		return oneOf(d, "0", "5", "-20", "100")
	case api.SynDigits:
		return oneOf(d, "1234", "12 34", "123 45", "12")
	case api.SynOid:
		return oneOf(d, "person", "2.5.6.6", "cn", "nobody")
	}
	return oneOf(d, texts...)
}

// item may be.
func (d dice) item(s *schema.Schema) api.Filter {
	desc := d.desc()
	switch kind := oneOf[int8](d, api.FEqual, api.FEqual, api.FEqual, api.FPart, api.FMore, api.FLess, api.FHave, api.FLike, api.FRule); kind {
	case api.FHave:
		return have(desc)
	case api.FPart:
		text := oneOf(d, "a", "Ab", " abc", "12", "x")
		for range d.Intn(3) {
			text += "*" + oneOf(d, "b", "abc", "234", "bc", "N")
		}
		return pieces(desc, text+"*"+oneOf(d, "", "c", "bc", "34"))
	case api.FRule:
		return api.Filter{Kind: api.FRule, Desc: desc, Rule: oneOf(d, "", "caseIgnoreMatch", "caseExactMatch", "integerMatch", "noMatch"), Value: d.value(s, desc), Dn: d.Intn(3) == 0}
	default:
		return item(kind, desc, d.value(s, desc))
	}
}

// filter may be, and is at most so deep.
func (d dice) filter(s *schema.Schema, deep int) api.Filter {
	if deep <= 1 || d.Intn(5) == 0 {
		return d.item(s)
	}
	f := api.Filter{Kind: oneOf[int8](d, api.FAnd, api.FAnd, api.FOr, api.FOr, api.FNot)}
	many := 1
	if f.Kind != api.FNot {
		many += d.Intn(4)
	}
	for range many {
		f.Kids = append(f.Kids, d.filter(s, deep-1))
	}
	return f
}

// store has a schema with some of plainSchema's types, some of their bits, and some records; sometimes no bits, no records.
func (d dice) store(t testing.TB, most int) *store.Store {
	t.Helper()
	all := plainSchema()
	keep := all.Types[:3:3]
	for _, kind := range all.Types[3:] {
		if d.Intn(5) > 0 {
			keep = append(keep, kind)
		}
	}
	often := d.Intn(4)
	var may []string
	for i := range keep {
		bits := keep[i].Index | api.IxHave
		if often == 0 || d.Intn(5) == 0 {
			bits = 0
		}
		keep[i].Index = bits & uint8(d.Intn(16)|d.Intn(16))
		if i != tClass {
			may = append(may, keep[i].Names[0])
		}
	}
	all.Types, all.Classes[0].May = keep, may
	st := storeOf(t, all)
	for range d.Intn(most + 1) {
		e := entry()
		for range d.Intn(6) {
			desc := d.desc()
			e.Attrs = append(e.Attrs, api.Attr{Desc: desc, Values: []string{d.value(st.Schema(), desc)}})
		}
		// Those that the schema refuses are left out.
		st.Add(uint64(d.Intn(1000)), called(t, "cn=a"), e)
	}
	return st
}

// guesses answer alike each time they are asked the same.
func (d dice) guesses() func(q api.Fetch) float64 {
	switch d.Intn(4) {
	case 0:
		return nil
	case 1:
		return constantly(oneOf(d, someGuesses...))
	}
	told := map[string]float64{}
	return func(q api.Fetch) float64 {
		key := fmt.Sprint(q)
		if _, is := told[key]; !is {
			told[key] = oneOf(d, append(someGuesses, float64(d.Intn(60)))...)
		}
		return told[key]
	}
}

// plan may be.
func (d dice) plan(s *schema.Schema, deep int) api.Plan {
	p := api.Plan{How: int8(d.Intn(api.PlLess + 1))}
	if deep <= 1 {
		p.How = int8(d.Intn(api.PlFetch + 1))
	}
	kids := 0
	switch p.How {
	case api.PlFetch:
		p.Fetch = d.fetch()
	case api.PlTest:
		p.Filter = d.filter(s, 3)
		kids = 1
	case api.PlAnd, api.PlOr:
		kids = 1 + d.Intn(4)
	case api.PlLess:
		kids = 2
	}
	for range kids {
		p.Kids = append(p.Kids, d.plan(s, deep-1))
	}
	return p
}

func (d dice) fetch() api.Fetch {
	q := api.Fetch{Kind: int8(d.Intn(5)), Type: d.Intn(api.MaxTypes)}
	switch q.Kind {
	case api.GetEqual, api.GetFrom, api.GetUpTo:
		q.Key = oneOf(d, "", "a", "ann", "\xff")
	case api.GetPart:
		for range 2 + d.Intn(3) {
			q.Pieces = append(q.Pieces, oneOf(d, "", "a", "abc"))
		}
	}
	return q
}

// spoilt has something else at some part.
func (d dice) spoilt(s *schema.Schema, p api.Plan) api.Plan {
	if len(p.Kids) > 0 && d.Intn(3) > 0 {
		p.Kids = slices.Clone(p.Kids)
		at := d.Intn(len(p.Kids))
		p.Kids[at] = d.spoilt(s, p.Kids[at])
		return p
	}
	switch d.Intn(6) {
	case 0:
		p.How = int8(d.Intn(256) - 128)
	case 1:
		p.How = int8(d.Intn(api.PlLess + 1))
	case 2:
		p.Fetch = oneOf(d, api.Fetch{Kind: 1}, api.Fetch{Type: 1}, api.Fetch{Key: "a"}, api.Fetch{Pieces: []string{""}}, api.Fetch{Kind: 5}, api.Fetch{Type: -1}, api.Fetch{Type: 1024})
	case 3:
		p.Filter = oneOf(d, api.Filter{}, ann, and(), api.Filter{Dn: true}, api.Filter{Middles: []string{""}}, within(api.FNot, 64, ann))
	case 4:
		p.Kids = slices.Repeat([]api.Plan{all}, d.Intn(4))
	case 5:
		p.Kids = append(slices.Clone(p.Kids), d.plan(s, 2))
	}
	return p
}
