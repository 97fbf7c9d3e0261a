package code_test

import (
	"bytes"
	"fmt"
	"slices"
	"sync"
	"testing"

	"roster/api"
	"roster/code"
)

// spoilTexts and the others write over lists, the room behind their ends too.
func spoilTexts(texts []string) {
	for i := range texts[:cap(texts)] {
		texts[:cap(texts)][i] = "spoilt"
	}
}

func spoilFilter(f api.Filter) {
	for _, kid := range f.Kids {
		spoilFilter(kid)
	}
	spoilTexts(f.Middles)
	for i := range f.Kids[:cap(f.Kids)] {
		f.Kids[:cap(f.Kids)][i] = api.Filter{Kind: api.FNot, Desc: "spoilt"}
	}
}

func spoil(p api.Program) {
	for _, c := range p.Consts {
		spoilTexts(c.Fetch.Pieces)
		spoilFilter(c.Filter)
	}
	for i := range p.Consts[:cap(p.Consts)] {
		p.Consts[:cap(p.Consts)][i] = api.Const{Test: true}
	}
	for i := range p.Code[:cap(p.Code)] {
		p.Code[:cap(p.Code)][i] = api.Instr{Op: 9, Arg: -1}
	}
}

func spoilBytes(b []byte) {
	for i := range b[:cap(b)] {
		b[:cap(b)][i] = 0xee
	}
}

// wholeFilter and whole show all, with the room behind the ends of lists.
func wholeFilter(f api.Filter) string {
	text := fmt.Sprintf("%d %q %q %q %q %q %v %d of %q", f.Kind, f.Desc, f.Value, f.Start, f.End, f.Rule, f.Dn, len(f.Middles), f.Middles[:cap(f.Middles)])
	for _, kid := range f.Kids[:cap(f.Kids)] {
		text += fmt.Sprintf(" %d(%s)", len(f.Kids), wholeFilter(kid))
	}
	return text
}

func whole(p api.Program) string {
	text := fmt.Sprintf("%d of %v, %d", len(p.Code), p.Code[:cap(p.Code)], len(p.Consts))
	for _, c := range p.Consts[:cap(p.Consts)] {
		text += fmt.Sprintf(" {%v %d %d %q %d of %q [%s]}", c.Test, c.Fetch.Kind, c.Fetch.Type, c.Fetch.Key, len(c.Fetch.Pieces), c.Fetch.Pieces[:cap(c.Fetch.Pieces)], wholeFilter(c.Filter))
	}
	return text
}

// cells are the places of all that a list holds, the room behind its end too.
func cells[T any](list []T) []any {
	var out []any
	for i := range list[:cap(list)] {
		out = append(out, &list[:cap(list)][i])
	}
	return out
}

func filterCells(f api.Filter) []any {
	out := append(cells(f.Middles), cells(f.Kids)...)
	for _, kid := range f.Kids {
		out = append(out, filterCells(kid)...)
	}
	return out
}

func programCells(p api.Program) []any {
	out := append(cells(p.Consts), cells(p.Code)...)
	for _, c := range p.Consts {
		out = append(out, cells(c.Fetch.Pieces)...)
		out = append(out, filterCells(c.Filter)...)
	}
	return out
}

// roomy has marks in the room behind the ends of all its lists, some of which stand there more than once.
func roomy() api.Program {
	kids := func(kids ...api.Filter) []api.Filter {
		return append(kids, api.Filter{Kind: 88}, api.Filter{Desc: "mark"})[:len(kids)]
	}
	middles := append([]string{"m", "n"}, "mark")[:2]
	pieces := append([]string{"a", ""}, "mark")[:2]
	piece := part("cn", "s", "e", middles...)
	piece.Kids = kids()
	list := kids(piece, have("a"), piece)
	none := append([]string{}, "mark")[:0]
	bare, keyed := test(have("cn")), getA
	bare.Fetch.Pieces, keyed.Fetch.Pieces, keyed.Filter.Kids, keyed.Filter.Middles = none, none, kids(), none
	consts := []api.Const{
		get(api.GetPart, 1, "", pieces...), get(api.GetPart, 2, "", pieces...), bare, keyed,
		test(api.Filter{Kind: api.FAnd, Kids: list}), test(api.Filter{Kind: api.FOr, Kids: kids(api.Filter{Kind: api.FAnd, Kids: list}, piece)}), test(api.Filter{Kind: api.FNot, Kids: kids(piece)}),
	}
	instrs := []api.Instr{fetch(0), fetch(1), join, tested(2), fetch(3), meet, tested(4), tested(6)}
	return api.Program{
		Code:   append(instrs, api.Instr{Op: 77, Arg: 7})[:len(instrs)],
		Consts: append(consts, api.Const{Fetch: api.Fetch{Key: "mark"}})[:len(consts)],
	}
}

// R3: programs stay as they are, with the room behind their ends; bytes that were handed out, written over, show nowhere.
func TestProgramStays(t *testing.T) {
	p := roomy()
	want, text := written(p).b, modelShow(p)
	for range 3 {
		checkDepth(t, p, 2)
		checkShow(t, p, text)
		checkEncode(t, p, want)
		b, _ := code.Encode(p)
		spoilBytes(b)
		if got, want := whole(p), whole(roomy()); got != want {
			t.Fatalf("%s; want %s", got, want)
		}
	}
	// Refused ones stay, too.
	p.Code = append(p.Code, all)
	before := whole(p)
	checkCheck(t, p, api.ErrStack, len(p.Consts)+len(p.Code))
	if whole(p) != before {
		t.Error("a refused program is another one")
	}
}

// R3: what Encode answered does not become another one with the program.
func TestEncodeIsNew(t *testing.T) {
	p := roomy()
	want := written(p).b
	first, _ := code.Encode(p)
	second, _ := code.Encode(p)
	spoil(p)
	if !bytes.Equal(first, want) || !bytes.Equal(second, want) {
		t.Error("the bytes hang on the program")
	}
	spoilBytes(first)
	_ = append(first[:0], first[:cap(first)]...)
	if !bytes.Equal(second, want) {
		t.Error("the bytes of two calls share memory")
	}
}

// R3: bytes stay as they are, and may be written over behind the call; no two lists of what was read share memory.
func TestDecodeIsNew(t *testing.T) {
	want := roomy()
	b := append(written(want).b, raw("EE EE EE")...)
	b = b[:len(b)-3]
	before := slices.Clone(b[:cap(b)])
	first, e, _ := code.Decode(b)
	second, _, _ := code.Decode(b)
	if e != api.OK || !bytes.Equal(b[:cap(b)], before) {
		t.Fatalf("%v, or the bytes are others", e)
	}
	taken := map[any]bool{}
	for _, cell := range append(programCells(first), programCells(second)...) {
		if taken[cell] {
			t.Fatal("lists share memory")
		}
		taken[cell] = true
	}
	spoilBytes(b)
	if !isSame(first, want) || !isSame(second, want) {
		t.Error("what was read hangs on the bytes")
	}
	spoil(first)
	if !isSame(second, want) {
		t.Error("what two calls answered shares memory")
	}
	if third, e, _ := code.Decode(before[:len(b)]); e != api.OK || !isSame(third, want) {
		t.Errorf("%s, %v", shown(third), e)
	}
}

// R2: all of it at the same time, on the same programs and bytes.
func TestGoroutines(t *testing.T) {
	d := diceOf(6)
	var programs []api.Program
	for range 200 {
		programs = append(programs, d.program(), d.spoilt(d.program()))
	}
	var wait sync.WaitGroup
	for range 8 {
		wait.Go(func() {
			for _, p := range programs {
				checkProgram(t, p)
			}
			checkDecode(t, raw("52 50 01 80 00 01 01"))
		})
	}
	wait.Wait()
}
