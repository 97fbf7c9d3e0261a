package schema_test

import (
	"strings"
	"testing"

	"roster/api"
	"roster/schema"
)

func checkPrint(t *testing.T, s api.Schema) {
	t.Helper()
	want, ok := modelPrint(s)
	wantE := api.OK
	switch {
	case !ok:
		wantE = api.ErrSyntax
	case len(want) > api.MaxBytes:
		want, wantE = "", api.ErrLong
	}
	if got, e := schema.Print(s); got != want || e != wantE {
		t.Errorf("Print(%s) = %s, %v, want %s, %v", brief(s), brief(got), e, brief(want), wantE)
	}
}

func types(list ...api.Type) api.Schema { return api.Schema{Types: list} }

func classes(list ...api.Class) api.Schema { return api.Schema{Classes: list} }

func TestPrintOfNothing(t *testing.T) {
	if text, e := schema.Print(api.Schema{}); text != "" || e != api.OK {
		t.Errorf("%q, %v", text, e)
	}
}

func TestPrintLines(t *testing.T) {
	full := api.Type{Oid: "1.2", Names: []string{"a", "", "9 _#()$\t\x00\xff"}, Sup: "1.9", Syntax: api.SynName, Equal: api.RuleOid, Order: api.RuleFold, Part: api.RuleTimeOrder, Single: true, Index: 15}
	class := api.Class{Oid: "0.0", Names: []string{"x", "y"}, Sups: []string{"a", "1.1"}, Kind: api.ClAuxiliary, Must: []string{"b", "b"}, May: []string{"c", "2.5", "d"}}
	want := "attributetype ( 1.2 NAME ( 'a' '' '9 _#()$\t\x00\xff' ) SUP 1.9 EQUALITY objectIdentifierMatch ORDERING caseIgnoreMatch SUBSTR generalizedTimeOrderingMatch SYNTAX 1.3.6.1.4.1.1466.115.121.1.12 SINGLE-VALUE X-INDEX ( 'have' 'equal' 'order' 'part' ) )\n" +
		"attributetype ( 1.3 NAME 'b' SYNTAX 1.3.6.1.4.1.1466.115.121.1.15 )\n" +
		"objectclass ( 0.0 NAME ( 'x' 'y' ) SUP ( a $ 1.1 ) AUXILIARY MUST ( b $ b ) MAY ( c $ 2.5 $ d ) )\n" +
		"objectclass ( 0.1 NAME 'z' ABSTRACT )\n"
	s := api.Schema{Types: []api.Type{full, {Oid: "1.3", Names: []string{"b"}}}, Classes: []api.Class{class, {Oid: "0.1", Names: []string{"z"}}}}
	if got, e := schema.Print(s); got != want || e != api.OK {
		t.Errorf("%v\n%s", e, got)
	}
}

func TestPrintOfEveryNumber(t *testing.T) {
	for n := -128; n <= 127; n++ {
		k := int8(n)
		checkPrint(t, types(api.Type{Oid: "1.2", Names: []string{"a"}, Syntax: k}))
		checkPrint(t, types(api.Type{Oid: "1.2", Names: []string{"a"}, Equal: k}))
		checkPrint(t, types(api.Type{Oid: "1.2", Names: []string{"a"}, Order: k}))
		checkPrint(t, types(api.Type{Oid: "1.2", Names: []string{"a"}, Part: k}))
		checkPrint(t, types(api.Type{Oid: "1.2", Names: []string{"a"}, Index: uint8(n)}))
		checkPrint(t, classes(api.Class{Oid: "1.2", Names: []string{"a"}, Kind: k}))
	}
}

func TestPrintOfWords(t *testing.T) {
	for _, w := range []string{"", "a", "A9-", "a_", "9", "9a", "-", "-a", "a b", "a'", "'", "\n", "a\n", "\t", "1.2", "0.0", "00.1", "1.00", "1.02", "1.", ".1", "1..2", "1.2.3", "1.a", "1", "a.b", "é", "\x00", "\xff", "10.20", "(", "$", "1.2 "} {
		checkPrint(t, types(api.Type{Oid: w, Names: []string{"a"}}))
		checkPrint(t, types(api.Type{Oid: "1.2", Names: []string{w}}))
		checkPrint(t, types(api.Type{Oid: "1.2", Names: []string{"a", w, "b"}}))
		checkPrint(t, types(api.Type{Oid: "1.2", Names: []string{"a"}, Sup: w}))
		checkPrint(t, classes(api.Class{Oid: w, Names: []string{"a"}}))
		checkPrint(t, classes(api.Class{Oid: "1.2", Names: []string{"b", w}}))
		for _, list := range [][]string{{w}, {"a", w}, {w, "1.2"}} {
			checkPrint(t, classes(api.Class{Oid: "1.2", Names: []string{"a"}, Sups: list}))
			checkPrint(t, classes(api.Class{Oid: "1.2", Names: []string{"a"}, Must: list}))
			checkPrint(t, classes(api.Class{Oid: "1.2", Names: []string{"a"}, May: list}))
		}
	}
	checkPrint(t, types(api.Type{Oid: "1.2"}))
	checkPrint(t, types(api.Type{Oid: "1.2", Names: []string{}}))
	checkPrint(t, classes(api.Class{Oid: "1.2"}))
	good := api.Type{Oid: "1.2", Names: []string{"a"}}
	checkPrint(t, types(good, good, api.Type{Oid: "1"}))
	checkPrint(t, api.Schema{Types: []api.Type{good}, Classes: []api.Class{{Oid: "1.2", Names: []string{"a"}}, {Oid: "1.2", Names: []string{"a"}, Kind: 3}}})
}

func TestPrintOfManyTypes(t *testing.T) {
	good := api.Type{Oid: "1.2", Names: []string{"a"}}
	goodClass := api.Class{Oid: "1.2", Names: []string{"a"}}
	var many api.Schema
	for range api.MaxTypes {
		many.Types, many.Classes = append(many.Types, good), append(many.Classes, goodClass)
	}
	checkPrint(t, many)
	for _, s := range []api.Schema{
		{Types: append(many.Types, good)}, {Types: many.Types, Classes: append(many.Classes, goodClass)},
		{Types: append(many.Types, api.Type{})}, {Types: []api.Type{{}}, Classes: make([]api.Class, api.MaxTypes+1)}, {Types: make([]api.Type, api.MaxTypes+1)},
	} {
		if text, e := schema.Print(s); text != "" || e != api.ErrLong {
			t.Errorf("%d types, %d classes: %v", len(s.Types), len(s.Classes), e)
		}
	}
}

func TestPrintOfLongTexts(t *testing.T) {
	empty, _ := modelPrint(types(api.Type{Oid: "1.2", Names: []string{""}}))
	most := strings.Repeat("n", api.MaxBytes-len(empty))
	if text, e := schema.Print(types(api.Type{Oid: "1.2", Names: []string{most}})); len(text) != api.MaxBytes || e != api.OK {
		t.Errorf("%d bytes, %v", len(text), e)
	}
	checkPrint(t, types(api.Type{Oid: "1.2", Names: []string{most}}))
	checkPrint(t, types(api.Type{Oid: "1.2", Names: []string{most + "n"}}))
	checkPrint(t, types(api.Type{Oid: "1.2", Names: []string{most + "n"}}, api.Type{Oid: "1.2", Names: []string{"b"}}))
	checkPrint(t, types(api.Type{Oid: "1.2", Names: []string{most}}, api.Type{Oid: "1.2", Names: []string{"b"}}))
	checkPrint(t, types(api.Type{Oid: "1.2", Names: []string{most}}, api.Type{Oid: "1.2"}))
	checkPrint(t, types(api.Type{Oid: "1.2", Names: []string{most + "'"}}))
	checkPrint(t, types(api.Type{Oid: "1." + strings.Repeat("1", 1<<20), Names: []string{"a"}}))
	long := strings.Repeat("x", 1<<17)
	eight := []string{long, long, long, long, long, long, long, long}
	for count := 6; count <= 8; count++ {
		checkPrint(t, classes(api.Class{Oid: "1.2", Names: []string{"a"}, May: eight[:count]}))
		checkPrint(t, classes(api.Class{Oid: "1.2", Names: eight[:count]}))
		checkPrint(t, classes(api.Class{Oid: "1.2", Names: []string{"a"}, Sups: eight[:count]}, api.Class{Oid: "1.2", Names: []string{"a"}}))
	}
	huge := strings.Repeat("n", 1<<26)
	if text, e := schema.Print(types(api.Type{Oid: "1.2", Names: []string{huge, huge, huge}})); text != "" || e != api.ErrLong {
		t.Errorf("%d bytes, %v", len(text), e)
	}
}
