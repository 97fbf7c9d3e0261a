package code_test

import (
	"bytes"
	"encoding/binary"
	"encoding/hex"
	"fmt"
	"math/rand"
	"slices"
	"strconv"
	"strings"
	"testing"

	"roster/api"
	"roster/code"
	"roster/filter"
)

// Filters.

func item(kind int8, desc, value string) api.Filter {
	return api.Filter{Kind: kind, Desc: desc, Value: value}
}

func equal(desc, value string) api.Filter { return item(api.FEqual, desc, value) }

func have(desc string) api.Filter { return item(api.FHave, desc, "") }

func part(desc, start, end string, middles ...string) api.Filter {
	return api.Filter{Kind: api.FPart, Desc: desc, Start: start, Middles: middles, End: end}
}

func ruled(desc, rule, value string, dn bool) api.Filter {
	return api.Filter{Kind: api.FRule, Desc: desc, Rule: rule, Value: value, Dn: dn}
}

func and(kids ...api.Filter) api.Filter { return api.Filter{Kind: api.FAnd, Kids: kids} }

func or(kids ...api.Filter) api.Filter { return api.Filter{Kind: api.FOr, Kids: kids} }

func not(kids ...api.Filter) api.Filter { return api.Filter{Kind: api.FNot, Kids: kids} }

// around has so many of a kind, one in the other, around f.
func around(kind int8, many int, f api.Filter) api.Filter {
	for range many {
		f = api.Filter{Kind: kind, Kids: []api.Filter{f}}
	}
	return f
}

// Constants.

func get(kind int8, place int, key string, pieces ...string) api.Const {
	return api.Const{Fetch: api.Fetch{Kind: kind, Type: place, Key: key, Pieces: pieces}}
}

func test(f api.Filter) api.Const { return api.Const{Test: true, Filter: f} }

var (
	getA  = get(api.GetEqual, 3, "a")
	testX = test(equal("cn", "x"))
)

// Instructions.

var (
	nothing = api.Instr{Op: api.OpNothing}
	all     = api.Instr{Op: api.OpAll}
	meet    = api.Instr{Op: api.OpAnd}
	join    = api.Instr{Op: api.OpOr}
	less    = api.Instr{Op: api.OpLess}
)

func fetch(arg int) api.Instr { return api.Instr{Op: api.OpFetch, Arg: arg} }

func tested(arg int) api.Instr { return api.Instr{Op: api.OpTest, Arg: arg} }

func program(instrs ...api.Instr) api.Program { return api.Program{Code: instrs} }

func with(p api.Program, consts ...api.Const) api.Program {
	p.Consts = consts
	return p
}

// unused has constants that no instruction names.
func unused(consts ...api.Const) api.Program { return with(program(all), consts...) }

// raw reads bytes to the base 16, blanks between them.
func raw(s string) []byte {
	b, err := hex.DecodeString(strings.ReplaceAll(s, " ", ""))
	if err != nil {
		panic(err)
	}
	return b
}

func filled(size int) string { return strings.Repeat("x", size) }

func brief(text string) string {
	if len(text) > 500 {
		return fmt.Sprintf("%s..%s (%d bytes)", text[:350], text[len(text)-100:], len(text))
	}
	return text
}

// shownFilter goes few levels deep: a filter's lists may hold themselves.
func shownFilter(f api.Filter, levels int) string {
	text := fmt.Sprintf("%d %q %q %q*%d*%q %q %v", f.Kind, brief(f.Desc), brief(f.Value), brief(f.Start), len(f.Middles), brief(f.End), f.Rule, f.Dn)
	for _, kid := range f.Kids[:min(len(f.Kids), levels)] {
		text += fmt.Sprintf(" (%s)", shownFilter(kid, levels-1))
	}
	return text
}

func shown(p api.Program) string {
	text := fmt.Sprintf("%d constants", len(p.Consts))
	for _, c := range p.Consts[:min(len(p.Consts), 10)] {
		text += fmt.Sprintf(", %v %d %d %q %d:%q [%s]", c.Test, c.Fetch.Kind, c.Fetch.Type, brief(c.Fetch.Key), len(c.Fetch.Pieces), c.Fetch.Pieces[:min(len(c.Fetch.Pieces), 5)], shownFilter(c.Filter, 4))
	}
	return brief(text + fmt.Sprintf(", %d instructions: %v", len(p.Code), p.Code[:min(len(p.Code), 50)]))
}

// Lists without anything are the same (R6).
func sameFilter(a, b api.Filter) bool {
	return a.Kind == b.Kind && a.Desc == b.Desc && a.Value == b.Value && a.Start == b.Start && a.End == b.End && a.Rule == b.Rule && a.Dn == b.Dn &&
		slices.Equal(a.Middles, b.Middles) && slices.EqualFunc(a.Kids, b.Kids, sameFilter)
}

func sameConst(a, b api.Const) bool {
	return a.Test == b.Test && a.Fetch.Kind == b.Fetch.Kind && a.Fetch.Type == b.Fetch.Type && a.Fetch.Key == b.Fetch.Key &&
		slices.Equal(a.Fetch.Pieces, b.Fetch.Pieces) && sameFilter(a.Filter, b.Filter)
}

func isSame(a, b api.Program) bool {
	return slices.Equal(a.Code, b.Code) && slices.EqualFunc(a.Consts, b.Consts, sameConst)
}

// modelConst: whether a constant may be, each line of the chapter by itself.
func modelConst(c api.Const) bool {
	if c.Test {
		wrong, _, _ := filter.Check(c.Filter)
		return sameConst(api.Const{Fetch: c.Fetch}, api.Const{}) && wrong == api.OK
	}
	q := c.Fetch
	isKeyed := q.Kind == api.GetEqual || q.Kind == api.GetFrom || q.Kind == api.GetUpTo
	for _, piece := range q.Pieces {
		if len(piece) > api.MaxText {
			return false
		}
	}
	return sameFilter(c.Filter, api.Filter{}) &&
		(isKeyed || q.Kind == api.GetHave || q.Kind == api.GetPart) &&
		q.Type >= 0 && q.Type <= api.MaxTypes-1 &&
		(q.Key == "" || isKeyed) && len(q.Key) <= 8*api.MaxText &&
		(q.Kind == api.GetPart) == (len(q.Pieces) > 0) && len(q.Pieces) != 1
}

func modelInstr(i api.Instr, consts []api.Const) bool {
	switch i.Op {
	case api.OpFetch, api.OpTest:
		isPlace := i.Arg >= 0 && i.Arg < len(consts)
		return isPlace && (i.Op == api.OpTest && consts[i.Arg].Test || i.Op == api.OpFetch && !consts[i.Arg].Test)
	case api.OpNothing, api.OpAll, api.OpAnd, api.OpOr, api.OpLess:
		return i.Arg == 0
	}
	return false
}

// pile is the stack: of each list how it came about.
type pile []string

// do is what an instruction does to the stack; false, if it has too few lists.
func (s *pile) do(i api.Instr) bool {
	lists := *s
	switch i.Op {
	case api.OpNothing, api.OpAll, api.OpFetch:
		*s = append(lists, "l")
	case api.OpTest:
		if len(lists) == 0 {
			return false
		}
		lists[len(lists)-1] = "t"
	case api.OpAnd, api.OpOr, api.OpLess:
		if len(lists) < 2 {
			return false
		}
		*s = append(lists[:len(lists)-2], "j")
	}
	return true
}

// modelCheck goes place by place.
func modelCheck(p api.Program) (e api.Errno, at, depth int) {
	if len(p.Code) > api.MaxCode || len(p.Consts) > api.MaxCode {
		return api.ErrLong, 0, 0
	}
	for place, c := range p.Consts {
		if !modelConst(c) {
			return api.ErrCode, place, 0
		}
	}
	var stack pile
	for place, i := range p.Code {
		if !modelInstr(i, p.Consts) {
			return api.ErrCode, len(p.Consts) + place, 0
		}
		if !stack.do(i) {
			return api.ErrStack, len(p.Consts) + place, 0
		}
		depth = max(depth, len(stack))
	}
	if len(stack) != 1 {
		return api.ErrStack, len(p.Consts) + len(p.Code), 0
	}
	return api.OK, 0, depth
}

// What stands at a place among the bytes.
const (
	isHead    = iota
	isCount   // how many of something come
	isPlace   // a Type or an Arg
	isLength  // how many bytes a text has
	isBytes   // a text's bytes
	isSort    // the byte ahead of a constant
	isGetKind // a fetch's Kind
	isKind    // a filter's Kind
	isDn
	isOp
)

type token struct {
	what, at, size int
}

// sheet writes as the chapter says it, and notes what stands where.
type sheet struct {
	b      []byte
	tokens []token
}

func (w *sheet) note(what int, b []byte) {
	w.tokens = append(w.tokens, token{what, len(w.b), len(b)})
	w.b = append(w.b, b...)
}

func (w *sheet) byte(what int, b byte) { w.note(what, []byte{b}) }

func (w *sheet) number(what, n int) { w.note(what, binary.AppendUvarint(nil, uint64(n))) }

func (w *sheet) texts(texts ...string) {
	for _, s := range texts {
		w.number(isLength, len(s))
		w.note(isBytes, []byte(s))
	}
}

func (w *sheet) filter(f api.Filter) {
	w.byte(isKind, byte(f.Kind))
	kids := func() {
		for _, kid := range f.Kids {
			w.filter(kid)
		}
	}
	map[int8]func(){
		api.FAnd:   func() { w.number(isCount, len(f.Kids)); kids() },
		api.FOr:    func() { w.number(isCount, len(f.Kids)); kids() },
		api.FNot:   kids,
		api.FEqual: func() { w.texts(f.Desc, f.Value) },
		api.FMore:  func() { w.texts(f.Desc, f.Value) },
		api.FLess:  func() { w.texts(f.Desc, f.Value) },
		api.FLike:  func() { w.texts(f.Desc, f.Value) },
		api.FHave:  func() { w.texts(f.Desc) },
		api.FPart: func() {
			w.texts(f.Desc, f.Start)
			w.number(isCount, len(f.Middles))
			w.texts(f.Middles...)
			w.texts(f.End)
		},
		api.FRule: func() {
			w.texts(f.Desc, f.Rule, f.Value)
			w.byte(isDn, map[bool]byte{true: 1}[f.Dn])
		},
	}[f.Kind]()
}

// written: of a program whose constants may not be, too, if their kinds are right and its Args are not below 0.
func written(p api.Program) *sheet {
	w := &sheet{}
	for _, b := range raw("52 50 01") {
		w.byte(isHead, b)
	}
	w.number(isCount, len(p.Consts))
	for _, c := range p.Consts {
		if c.Test {
			w.byte(isSort, 1)
			w.filter(c.Filter)
			continue
		}
		w.byte(isSort, 0)
		w.byte(isGetKind, byte(c.Fetch.Kind))
		w.number(isPlace, c.Fetch.Type)
		w.texts(c.Fetch.Key)
		w.number(isCount, len(c.Fetch.Pieces))
		w.texts(c.Fetch.Pieces...)
	}
	w.number(isCount, len(p.Code))
	for _, i := range p.Code {
		w.byte(isOp, i.Op)
		if i.Op == api.OpFetch || i.Op == api.OpTest {
			w.number(isPlace, i.Arg)
		}
	}
	return w
}

func modelEncode(p api.Program) ([]byte, api.Errno) {
	if e, _, _ := modelCheck(p); e != api.OK {
		return nil, e
	}
	b := written(p).b
	if len(b) > api.MaxBytes {
		return nil, api.ErrLong
	}
	return b, api.OK
}

// model reads as the chapter says it. Behind the first fault everything that it reads is nought.
type model struct {
	b     []byte
	at    int
	code  api.Errno
	where int
}

func (m *model) fail(code api.Errno, where int) {
	if m.code == api.OK {
		m.code, m.where = code, where
	}
}

// byte reads one of those from 0 up to most.
func (m *model) byte(most byte) byte {
	switch {
	case m.code != api.OK:
		return 0
	case m.at == len(m.b):
		m.fail(api.ErrShort, m.at)
		return 0
	case m.b[m.at] > most:
		m.fail(api.ErrCode, m.at)
		return 0
	}
	m.at++
	return m.b[m.at-1]
}

func (m *model) number() int {
	if m.code != api.OK {
		return 0
	}
	rest := m.b[m.at:]
	size := 1 + slices.IndexFunc(rest[:min(len(rest), 5)], func(b byte) bool { return b < 128 })
	switch {
	case size == 0 && len(rest) < 5:
		m.fail(api.ErrShort, len(m.b))
		return 0
	case size == 0:
		m.fail(api.ErrCode, m.at)
		return 0
	}
	n, _ := binary.Uvarint(rest[:size])
	if n > 1<<31-1 || len(binary.AppendUvarint(nil, n)) < size {
		m.fail(api.ErrCode, m.at)
		return 0
	}
	m.at += size
	return int(n)
}

func (m *model) text() string {
	size := m.number()
	if size > len(m.b)-m.at {
		m.fail(api.ErrShort, len(m.b))
	}
	if m.code != api.OK {
		return ""
	}
	m.at += size
	return string(m.b[m.at-size : m.at])
}

func (m *model) texts() (out []string) {
	for many := m.number(); len(out) < many && m.code == api.OK; {
		out = append(out, m.text())
	}
	return out
}

func (m *model) filter(level int) (f api.Filter) {
	at, isThere := m.at, m.at < len(m.b)
	f.Kind = int8(m.byte(9))
	if level > 64 && isThere {
		m.fail(api.ErrCode, at)
	}
	kids := 0
	switch f.Kind {
	case 0, 1:
		kids = m.number()
	case 2:
		kids = 1
	case 7:
		f.Desc = m.text()
	case 4:
		f.Desc, f.Start, f.Middles, f.End = m.text(), m.text(), m.texts(), m.text()
	case 9:
		f.Desc, f.Rule, f.Value, f.Dn = m.text(), m.text(), m.text(), m.byte(1) == 1
	default:
		f.Desc, f.Value = m.text(), m.text()
	}
	for len(f.Kids) < kids && m.code == api.OK {
		f.Kids = append(f.Kids, m.filter(level+1))
	}
	return f
}

func (m *model) program() (p api.Program) {
	for _, want := range raw("52 50 01") {
		if at := m.at; m.byte(255) != want {
			m.fail(api.ErrCode, at)
		}
	}
	for many := m.number(); len(p.Consts) < many && m.code == api.OK; {
		if m.byte(1) == 1 {
			p.Consts = append(p.Consts, test(m.filter(1)))
			continue
		}
		p.Consts = append(p.Consts, get(int8(m.byte(4)), m.number(), m.text(), m.texts()...))
	}
	for many := m.number(); len(p.Code) < many && m.code == api.OK; {
		i := api.Instr{Op: m.byte(6)}
		if i.Op == 2 || i.Op == 3 {
			i.Arg = m.number()
		}
		p.Code = append(p.Code, i)
	}
	return p
}

func modelDecode(b []byte) (api.Program, api.Errno, int) {
	if len(b) > api.MaxBytes {
		return api.Program{}, api.ErrLong, 0
	}
	m := &model{b: b}
	p := m.program()
	if m.at < len(b) {
		m.fail(api.ErrMore, m.at)
	}
	if m.code != api.OK {
		return api.Program{}, m.code, m.where
	}
	if e, _, _ := modelCheck(p); e != api.OK {
		return api.Program{}, e, 0
	}
	return p, api.OK, 0
}

func modelText(s string) string {
	if s == "" {
		return " -"
	}
	return fmt.Sprintf(" %x", s)
}

func modelShow(p api.Program) string {
	if e, _, _ := modelCheck(p); e != api.OK {
		return ""
	}
	var out strings.Builder
	for place, c := range p.Consts {
		fmt.Fprint(&out, place, " ")
		if c.Test {
			_, parts, _ := filter.Check(c.Filter)
			fmt.Fprintln(&out, "test", parts)
			continue
		}
		fmt.Fprint(&out, strings.Fields("have equal from upto part")[c.Fetch.Kind], " ", c.Fetch.Type)
		if c.Fetch.Kind != api.GetHave && c.Fetch.Kind != api.GetPart {
			out.WriteString(modelText(c.Fetch.Key))
		}
		for _, piece := range c.Fetch.Pieces {
			out.WriteString(modelText(piece))
		}
		out.WriteString("\n")
	}
	for place, i := range p.Code {
		words := []string{strconv.Itoa(place), strings.Fields("nothing all fetch test and or less")[i.Op]}
		if i.Op == api.OpFetch || i.Op == api.OpTest {
			words = append(words, strconv.Itoa(i.Arg))
		}
		fmt.Fprintln(&out, strings.Join(words, " "))
	}
	return out.String()
}

// checkCheck: what Check answers, and what a program that is refused is to the other calls.
func checkCheck(t *testing.T, p api.Program, want api.Errno, where int) {
	t.Helper()
	if e, at := code.Check(p); e != want || at != where {
		t.Errorf("Check(%s) is %v at %d; want %v at %d", shown(p), e, at, want, where)
	}
	if want == api.OK {
		return
	}
	if depth := code.Depth(p); depth != 0 {
		t.Errorf("Depth(%s) is %d; it is refused", shown(p), depth)
	}
	if b, e := code.Encode(p); len(b) != 0 || e != want {
		t.Errorf("Encode(%s) is % x, %v; want %v", shown(p), b, e, want)
	}
	if text := code.Show(p); text != "" {
		t.Errorf("Show(%s) is %s; it is refused", shown(p), brief(text))
	}
}

func checkDepth(t *testing.T, p api.Program, want int) {
	t.Helper()
	checkCheck(t, p, api.OK, 0)
	if depth := code.Depth(p); depth != want {
		t.Errorf("Depth(%s) is %d; want %d", shown(p), depth, want)
	}
}

func checkEncode(t *testing.T, p api.Program, want []byte) {
	t.Helper()
	if b, e := code.Encode(p); !bytes.Equal(b, want) || e != api.OK {
		t.Errorf("Encode(%s) is %s, %v; want %s", shown(p), brief(fmt.Sprintf("% x", b)), e, brief(fmt.Sprintf("% x", want)))
	}
}

func checkTaken(t *testing.T, b []byte, want api.Program) {
	t.Helper()
	if p, e, at := code.Decode(b); e != api.OK || at != 0 || !isSame(p, want) {
		t.Errorf("Decode(%s) is %s, %v at %d; want %s", brief(fmt.Sprintf("% x", b)), shown(p), e, at, shown(want))
	}
}

func checkWrong(t *testing.T, b []byte, want api.Errno, where int) {
	t.Helper()
	p, e, at := code.Decode(b)
	if e != want || at != where {
		t.Errorf("Decode(%s) is %v at %d; want %v at %d", brief(fmt.Sprintf("% x", b)), e, at, want, where)
	}
	if !isSame(p, api.Program{}) {
		t.Errorf("Decode(%s) has %s beside its error", brief(fmt.Sprintf("% x", b)), shown(p))
	}
}

func checkShow(t *testing.T, p api.Program, want string) {
	t.Helper()
	if text := code.Show(p); text != want {
		t.Errorf("Show(%s) is %s; want %s", shown(p), brief(text), brief(want))
	}
}

// checkProgram holds all calls of a program against the models, and tells Check's error.
func checkProgram(t *testing.T, p api.Program) api.Errno {
	t.Helper()
	e, at, depth := modelCheck(p)
	checkCheck(t, p, e, at)
	if got := code.Depth(p); got != depth {
		t.Errorf("Depth(%s) is %d; want %d", shown(p), got, depth)
	}
	checkShow(t, p, modelShow(p))
	want, wrong := modelEncode(p)
	b, e2 := code.Encode(p)
	if !bytes.Equal(b, want) || e2 != wrong {
		t.Errorf("Encode(%s) is %s, %v; want %s, %v", shown(p), brief(fmt.Sprintf("% x", b)), e2, brief(fmt.Sprintf("% x", want)), wrong)
	}
	if wrong == api.OK {
		checkTaken(t, want, p)
	}
	return e
}

// checkDecode holds Decode against the model, and tells its error. What it takes is what Encode writes, and may be (P18.4).
func checkDecode(t *testing.T, b []byte) (api.Errno, int) {
	t.Helper()
	want, e, at := modelDecode(b)
	if e != api.OK {
		checkWrong(t, b, e, at)
		return e, at
	}
	checkTaken(t, b, want)
	p, _, _ := code.Decode(b)
	checkEncode(t, p, b)
	checkCheck(t, p, api.OK, 0)
	return e, at
}

// dice makes by chance programs that may be, and such that may not.
type dice struct{ *rand.Rand }

func diceOf(seed int64) dice { return dice{rand.New(rand.NewSource(seed))} }

func (d dice) pick(words ...string) string { return words[d.Intn(len(words))] }

func (d dice) text() string {
	return d.pick("", "", "a", "ann", "\x00", "\x01\x02\x03", "RP\x01", "\xff\x80", "é", "b c", filled(127), filled(128), "-")
}

func (d dice) desc() string { return d.pick("cn", "sn;x", "age", "2.5.4.3;lang-DE", "a") }

func (d dice) item() api.Filter {
	switch kind := int8(api.FEqual + d.Intn(7)); kind {
	case api.FHave:
		return have(d.desc())
	case api.FPart:
		f := part(d.desc(), d.text(), d.text())
		for range d.Intn(3) {
			f.Middles = append(f.Middles, d.pick("m", "\x00", filled(130)))
		}
		if f.Start+f.End == "" && len(f.Middles) == 0 {
			f.End = "e"
		}
		return f
	case api.FRule:
		f := ruled(d.desc(), "", d.text(), d.Intn(2) == 0)
		if d.Intn(2) == 0 {
			f.Rule = d.pick("caseIgnoreMatch", "1.2", "r")
			f.Desc = d.pick(f.Desc, "")
		}
		return f
	default:
		return item(kind, d.desc(), d.text())
	}
}

func (d dice) filter(depth int) api.Filter {
	if depth == 1 || d.Intn(2) == 0 {
		return d.item()
	}
	f := api.Filter{Kind: int8(d.Intn(3))}
	kids := 1 + d.Intn(3)
	if f.Kind == api.FNot {
		kids = 1
	}
	for range kids {
		f.Kids = append(f.Kids, d.filter(depth-1))
	}
	return f
}

func (d dice) constant() api.Const {
	if d.Intn(2) == 0 {
		return test(d.filter(4))
	}
	c := get(int8(d.Intn(5)), []int{0, 1, d.Intn(api.MaxTypes), api.MaxTypes - 1}[d.Intn(4)], "")
	switch c.Fetch.Kind {
	case api.GetHave:
	case api.GetPart:
		for range 2 + d.Intn(3) {
			c.Fetch.Pieces = append(c.Fetch.Pieces, d.text())
		}
	default:
		c.Fetch.Key = d.text()
	}
	return c
}

// instr is one that may be, where there are such constants and so many lists.
func (d dice) instr(consts []api.Const, lists int) api.Instr {
	for {
		i := api.Instr{Op: uint8(d.Intn(7))}
		if len(consts) > 0 && (i.Op == api.OpFetch || i.Op == api.OpTest) {
			i.Arg = d.Intn(len(consts))
		}
		needs := map[uint8]int{api.OpTest: 1, api.OpAnd: 2, api.OpOr: 2, api.OpLess: 2}[i.Op]
		if modelInstr(i, consts) && needs <= lists {
			return i
		}
	}
}

func (d dice) program() api.Program {
	var p api.Program
	for range d.Intn(5) {
		p.Consts = append(p.Consts, d.constant())
	}
	var stack pile
	for many := d.Intn(12); many > 0 || len(stack) != 1; many-- {
		i := d.instr(p.Consts, len(stack))
		if many <= 0 && len(stack) > 1 {
			i = []api.Instr{meet, join, less}[d.Intn(3)]
		}
		stack.do(i)
		p.Code = append(p.Code, i)
	}
	return p
}

// spoilt has something else at some place.
func (d dice) spoilt(p api.Program) api.Program {
	p.Consts, p.Code = slices.Clone(p.Consts), slices.Clone(p.Code)
	if len(p.Consts) > 0 && d.Intn(2) == 0 {
		c := &p.Consts[d.Intn(len(p.Consts))]
		[]func(){
			func() { c.Test = !c.Test },
			func() { c.Fetch.Kind = int8(d.Intn(8) - 1) },
			func() { c.Fetch.Type = d.Intn(3)*api.MaxTypes - 1 },
			func() { c.Fetch.Key = d.text() },
			func() { c.Fetch.Pieces = append(slices.Clone(c.Fetch.Pieces), "") },
			func() { c.Filter.Kind = int8(d.Intn(12) - 1) },
			func() { c.Filter.Value = d.text() },
			func() { c.Filter.Kids = append(slices.Clone(c.Filter.Kids), d.item()) },
		}[d.Intn(8)]()
		return p
	}
	if d.Intn(3) == 0 {
		at := d.Intn(len(p.Code) + 1)
		p.Code = slices.Insert(p.Code, at, api.Instr{Op: uint8(d.Intn(8)), Arg: d.Intn(3)})
		return p
	}
	at := d.Intn(len(p.Code))
	[]func(){
		func() { p.Code[at].Op = uint8(d.Intn(9)) },
		func() { p.Code[at].Arg = d.Intn(7) - 1 },
		func() { p.Code = slices.Delete(p.Code, at, at+1) },
	}[d.Intn(3)]()
	return p
}
