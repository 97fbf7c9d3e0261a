package schema_test

import (
	"fmt"
	"math"
	"slices"
	"strings"
	"testing"

	"roster/api"
	"roster/schema"
)

// wideSchema has types and classes of all sorts, some of them ahead of their Sups.
const wideSchema = `attributetype ( 1.5 NAME ( 'low' 'L' ) SUP MID SYNTAX 1.3.6.1.4.1.1466.115.121.1.15 SINGLE-VALUE X-INDEX ( 'have' 'order' ) )
attributetype ( 1.4 NAME 'mid' SUP 1.3 ORDERING caseExactOrderingMatch SYNTAX 1.3.6.1.4.1.1466.115.121.1.15 )
attributetype ( 2.5.4.0 NAME 'objectClass' EQUALITY objectIdentifierMatch SYNTAX 1.3.6.1.4.1.1466.115.121.1.38 )
attributetype ( 1.3 NAME 'high' EQUALITY caseIgnoreMatch ORDERING caseIgnoreOrderingMatch SYNTAX 1.3.6.1.4.1.1466.115.121.1.15 )
attributetype ( 1.6 NAME 'side' SUP high EQUALITY caseExactMatch SUBSTR caseExactSubstringsMatch SYNTAX 1.3.6.1.4.1.1466.115.121.1.15 )
attributetype ( 1.7 NAME 'age' EQUALITY integerMatch ORDERING integerOrderingMatch SYNTAX 1.3.6.1.4.1.1466.115.121.1.27 SINGLE-VALUE )
attributetype ( 1.30 NAME 'photo' SYNTAX 1.3.6.1.4.1.1466.115.121.1.40 )
objectclass ( 1.1 NAME 'man' SUP ( Being $ 1.3 ) STRUCTURAL MUST low MAY ( AGE $ high ) )
objectclass ( 1.2 NAME ( 'being' 'Thing' ) SUP top STRUCTURAL MUST ( 1.3 $ L ) MAY photo )
objectclass ( 1.0 NAME 'top' ABSTRACT MUST objectClass )
objectclass ( 1.3 NAME 'holder' AUXILIARY MUST photo MAY ( mid $ low ) )
objectclass ( 1.4 NAME 'place' SUP top STRUCTURAL MAY ( side $ SIDE $ 1.6 ) )
objectclass ( 1.5 NAME 'helper' SUP place AUXILIARY )
objectclass ( 1.6 NAME 'twin' SUP ( man $ being ) MAY age )
objectclass ( 1.7 NAME 'lone' )
`

func TestPlain(t *testing.T) {
	for _, text := range []string{chapterSchema, wideSchema} {
		s := mustParse(t, text)
		if got := mustNew(t, s).Plain(); !sameSchema(got, s) {
			t.Errorf("Plain: %+v", got)
		}
	}
}

func TestTypeAndClass(t *testing.T) {
	x := mustMake(t, chapterSchema)
	if a, b, c, d := x.Type("CommonName"), x.Type("2.5.4.3"), x.Type("sn"), x.Class("PERSON"); a != 2 || b != 2 || c != -1 || d != 1 {
		t.Errorf("%d %d %d %d", a, b, c, d)
	}
	s := mustParse(t, wideSchema)
	x = mustNew(t, s)
	for _, name := range []string{"low", "LOW", "l", "L", "1.5", "mid", "MiD", "1.4", "objectclass", "2.5.4.0", "high", "1.3", "side", "1.6", "age", "1.7", "photo", "1.30",
		"man", "Being", "thing", "TOP", "1.0", "1.1", "1.2", "holder", "place", "helper", "twin", "lone",
		"", " ", "low ", " low", "lo", "loww", "1", "1.", "1.03", "1.3.", ".1.3", "low;x", "'low'", "ſide", "sıde", "\xff", "1.3\x00", strings.Repeat("low", 1<<20)} {
		if got, want := x.Type(name), modelTypePlace(s, name); got != want {
			t.Errorf("Type(%s) = %d, want %d", brief(name), got, want)
		}
		if got, want := x.Class(name), modelClassPlace(s, name); got != want {
			t.Errorf("Class(%s) = %d, want %d", brief(name), got, want)
		}
	}
}

// K is not K: letters are A to Z alone.
func TestTypeKnowsNoOtherLetters(t *testing.T) {
	x := mustNew(t, withTypes(api.Type{Oid: "1.1", Names: []string{"kiss"}}))
	for name, want := range map[string]int{"KISS": 1, "\u212aiss": -1, "ki\u017fs": -1, "kiß": -1} {
		if got := x.Type(name); got != want {
			t.Errorf("Type(%q) = %d", name, got)
		}
	}
}

func TestFull(t *testing.T) {
	x := mustMake(t, chapterSchema)
	if f := x.Full(2); f.Equal != api.RuleFold || f.Part != api.RuleFoldPart || f.Order != api.RuleNone {
		t.Errorf("Full(2) = %+v", f)
	}
	for _, text := range []string{chapterSchema, wideSchema} {
		s := mustParse(t, text)
		x := mustNew(t, s)
		for place, want := range s.Types {
			want.Equal, want.Order, want.Part = modelRule(s, place, 0), modelRule(s, place, 1), modelRule(s, place, 2)
			if got := x.Full(place); !sameType(got, want) {
				t.Errorf("Full(%d) = %+v, want %+v", place, got, want)
			}
		}
		for _, place := range []int{-1, len(s.Types), len(s.Types) + 1, math.MaxInt, math.MinInt} {
			if got := x.Full(place); !sameType(got, api.Type{}) {
				t.Errorf("Full(%d) = %+v", place, got)
			}
		}
	}
}

func TestBelow(t *testing.T) {
	x := mustMake(t, chapterSchema)
	if got := x.Below(1); !slices.Equal(got, []int{1, 2}) {
		t.Errorf("Below(1) = %v", got)
	}
	if got := x.Below(3); len(got) != 0 {
		t.Errorf("Below(3) = %v", got)
	}
	x = mustMake(t, wideSchema)
	for place, want := range [][]int{{0}, {0, 1}, {2}, {0, 1, 3, 4}, {4}, {5}, {6}} {
		if got := x.Below(place); !slices.Equal(got, want) {
			t.Errorf("Below(%d) = %v, want %v", place, got, want)
		}
	}
	for _, place := range []int{-1, 7, 8, math.MaxInt, math.MinInt} {
		if got := x.Below(place); len(got) != 0 {
			t.Errorf("Below(%d) = %v", place, got)
		}
	}
}

func TestBelowOfChains(t *testing.T) {
	for _, down := range []bool{false, true} {
		s := withTypes(chain(api.MaxSups, down)...)
		x := mustNew(t, s)
		for place := range s.Types {
			var want []int
			for p := range s.Types {
				if slices.Contains(modelUps(s, p), place) {
					want = append(want, p)
				}
			}
			if got := x.Below(place); !slices.Equal(got, want) {
				t.Errorf("Below(%d) = %v, want %v", place, got, want)
			}
		}
	}
}

func TestNilSchema(t *testing.T) {
	var s *schema.Schema
	if p := s.Plain(); len(p.Types)+len(p.Classes) != 0 {
		t.Errorf("Plain: %+v", p)
	}
	for _, w := range []string{"", "objectClass", "cn;", ";", strings.Repeat("a", api.MaxText+1)} {
		if a, b := s.Type(w), s.Class(w); a != -1 || b != -1 {
			t.Errorf("%s: Type %d, Class %d", brief(w), a, b)
		}
		if k, options, e := s.Desc(w); k != 0 || options != nil || e != api.ErrNil {
			t.Errorf("Desc(%s) = %d, %v, %v", brief(w), k, options, e)
		}
		if c, e := s.Canon(w); c != "" || e != api.ErrNil {
			t.Errorf("Canon(%s) = %s, %v", brief(w), brief(c), e)
		}
		if s.Covers(w, w) {
			t.Errorf("Covers(%s)", brief(w))
		}
		if must, may, e := s.Needs([]string{w}); must != nil || may != nil || e != api.ErrNil {
			t.Errorf("Needs(%s) = %v, %v, %v", brief(w), must, may, e)
		}
	}
	if _, _, e := s.Needs(nil); e != api.ErrNil {
		t.Errorf("Needs() = %v", e)
	}
	for _, k := range []int{-1, 0, 1, math.MaxInt} {
		if f := s.Full(k); !sameType(f, api.Type{}) {
			t.Errorf("Full(%d) = %+v", k, f)
		}
		if l := s.Below(k); len(l) != 0 {
			t.Errorf("Below(%d) = %v", k, l)
		}
	}
}

// As many types and classes as may be, each found by all its names.
func TestFullSchema(t *testing.T) {
	var s api.Schema
	for n := range api.MaxTypes {
		x := numbered(n, "")
		for k := 1; k < api.MaxNames; k++ {
			x.Names = append(x.Names, fmt.Sprintf("N%d-%d", n, k))
		}
		c := api.Class{Oid: x.Oid, Names: x.Names}
		s.Types, s.Classes = append(s.Types, x), append(s.Classes, c)
	}
	s.Types[77].Names[5], s.Types[77].Syntax, s.Types[77].Equal = "objectClass", api.SynOid, api.RuleOid
	x := mustNew(t, s)
	for n := range api.MaxTypes {
		for _, name := range append([]string{s.Types[n].Oid}, s.Types[n].Names...) {
			if got := x.Type(strings.ToUpper(name)); got != n {
				t.Fatalf("Type(%s) = %d, want %d", name, got, n)
			}
		}
		for _, name := range append([]string{s.Classes[n].Oid}, s.Classes[n].Names...) {
			if got := x.Class(strings.ToLower(name)); got != n && name != "objectClass" {
				t.Fatalf("Class(%s) = %d, want %d", name, got, n)
			}
		}
	}
}
