package schema_test

import (
	"fmt"
	"math/rand"
	"slices"
	"strings"
	"testing"

	"roster/api"
	"roster/schema"
)

func checkNew(t *testing.T, s api.Schema) api.Errno {
	t.Helper()
	want, wantAt := modelNew(s)
	x, e, at := schema.New(s)
	if e != want || at != wantAt || (x != nil) != (want == api.OK) {
		t.Errorf("New(%s) = %v at %d, want %v at %d", brief(s), e, at, want, wantAt)
	}
	return want
}

func wantNew(t *testing.T, what string, s api.Schema, want api.Errno, at int) {
	t.Helper()
	if e := checkNew(t, s); e != want {
		t.Errorf("%s: the model says %v", what, e)
	}
	if _, e, got := schema.New(s); e != want || got != at {
		t.Errorf("%s: %v at %d, want %v at %d", what, e, got, want, at)
	}
}

func objectClass() api.Type {
	return api.Type{Oid: "2.5.4.0", Names: []string{"objectClass"}, Syntax: api.SynOid, Equal: api.RuleOid}
}

// withTypes has objectClass first, at 0.
func withTypes(list ...api.Type) api.Schema {
	return api.Schema{Types: append([]api.Type{objectClass()}, list...)}
}

func withClasses(list ...api.Class) api.Schema {
	return api.Schema{Types: []api.Type{objectClass()}, Classes: list}
}

func numbered(n int, sup string) api.Type {
	return api.Type{Oid: fmt.Sprintf("1.%d", n), Names: []string{fmt.Sprintf("t%d", n)}, Sup: sup}
}

func numberedClass(n int, sups ...string) api.Class {
	return api.Class{Oid: fmt.Sprintf("1.%d", n), Names: []string{fmt.Sprintf("c%d", n)}, Sups: sups}
}

func TestNewExamples(t *testing.T) {
	wantNew(t, "no types", api.Schema{}, api.ErrType, 0)
	wantNew(t, "S", mustParse(t, chapterSchema), api.OK, 0)
}

func TestNewWordsOfTypes(t *testing.T) {
	long := strings.Repeat("a", api.MaxText)
	longOid := "1." + strings.Repeat("1", api.MaxText-2)
	for what, c := range map[string]struct {
		oid   string
		names []string
		want  api.Errno
	}{
		"no Oid":             {"", []string{"a"}, api.ErrSyntax},
		"a number":           {"1", []string{"a"}, api.ErrSyntax},
		"a nought ahead":     {"1.01", []string{"a"}, api.ErrSyntax},
		"a word":             {"b", []string{"a"}, api.ErrSyntax},
		"no names":           {"1.1", nil, api.ErrSyntax},
		"an empty name":      {"1.1", []string{""}, api.ErrSyntax},
		"a digit first":      {"1.1", []string{"a", "9b"}, api.ErrSyntax},
		"a - first":          {"1.1", []string{"-b"}, api.ErrSyntax},
		"an Oid as a name":   {"1.1", []string{"1.2"}, api.ErrSyntax},
		"an umlaut":          {"1.1", []string{"ä"}, api.ErrSyntax},
		"a long name":        {"1.1", []string{long}, api.OK},
		"a longer name":      {"1.1", []string{long + "a"}, api.ErrSyntax},
		"a long Oid":         {longOid, []string{"a"}, api.OK},
		"a longer Oid":       {longOid + "1", []string{"a"}, api.ErrSyntax},
		"many names":         {"1.1", letters(api.MaxNames), api.OK},
		"more names":         {"1.1", letters(api.MaxNames + 1), api.ErrLong},
		"more names, one ''": {"1.1", append(letters(api.MaxNames+1), ""), api.ErrSyntax},
		"more names, no Oid": {"1", letters(api.MaxNames + 1), api.ErrSyntax},
		"many, one twice":    {"1.1", append(letters(api.MaxNames-1), "A"), api.ErrTwice},
		"more, one twice":    {"1.1", append(letters(api.MaxNames), "A"), api.ErrLong},
		"a name of 0":        {"1.1", []string{"b", "OBJECTCLASS"}, api.ErrTwice},
		"the Oid of 0":       {"2.5.4.0", []string{"b"}, api.ErrTwice},
		"one name twice":     {"1.1", []string{"b", "c", "B"}, api.ErrTwice},
	} {
		at := 1
		if c.want == api.OK {
			at = 0
		}
		wantNew(t, what, withTypes(api.Type{Oid: c.oid, Names: c.names}), c.want, at)
		s := withClasses(api.Class{Oid: "2.5.4.0", Names: []string{"objectClass"}}, api.Class{Oid: c.oid, Names: c.names})
		wantNew(t, "of classes: "+what, s, c.want, 2*at)
	}
}

func letters(count int) []string {
	return strings.Split("abcdefghijklmnopqrstuvwxyz"[:count], "")
}

func TestNewCountsOfTypes(t *testing.T) {
	full := withTypes()
	for n := 1; n < api.MaxTypes; n++ {
		full.Types = append(full.Types, numbered(n, ""))
	}
	for n := range api.MaxTypes {
		full.Classes = append(full.Classes, numberedClass(n))
	}
	mustNew(t, full)
	more := api.Schema{Types: append(slices.Clone(full.Types), numbered(5000, "")), Classes: full.Classes}
	wantNew(t, "more types", more, api.ErrLong, 0)
	more = api.Schema{Types: full.Types, Classes: append(slices.Clone(full.Classes), numberedClass(5000))}
	wantNew(t, "more classes", more, api.ErrLong, 0)
	wantNew(t, "wrong types and more classes", api.Schema{Types: []api.Type{{}}, Classes: more.Classes}, api.ErrLong, 0)
	wantNew(t, "more types, all wrong", api.Schema{Types: make([]api.Type, api.MaxTypes+1)}, api.ErrLong, 0)
}

func TestNewSups(t *testing.T) {
	wantNew(t, "any case", withTypes(numbered(1, "T2"), numbered(2, "")), api.OK, 0)
	wantNew(t, "by Oid", withTypes(numbered(1, "1.2"), numbered(2, "")), api.OK, 0)
	wantNew(t, "nobody", withTypes(numbered(1, "t3"), numbered(2, "")), api.ErrWord, 1)
	wantNew(t, "a class", api.Schema{Types: []api.Type{objectClass(), numbered(1, "c1")}, Classes: []api.Class{numberedClass(1)}}, api.ErrWord, 1)
	wantNew(t, "nobody above a later one", withTypes(numbered(1, "t2"), numbered(2, "t3")), api.ErrWord, 2)
	wantNew(t, "itself", withTypes(numbered(1, "T1")), api.ErrLoop, 1)
	wantNew(t, "itself by Oid", withTypes(numbered(1, "1.1")), api.ErrLoop, 1)
	wantNew(t, "two", withTypes(numbered(1, "t2"), numbered(2, "t1")), api.ErrLoop, 1)
	wantNew(t, "below a loop", withTypes(numbered(1, "t2"), numbered(2, "t3"), numbered(3, "t2")), api.ErrLoop, 1)
	wantNew(t, "below itself", withTypes(numbered(1, "t2"), numbered(2, "t2")), api.ErrLoop, 1)
	wantNew(t, "a later one is wrong", withTypes(numbered(1, "9 x"), api.Type{Oid: "1.2", Names: []string{"9 X"}}), api.ErrSyntax, 2)
	wantNew(t, "a later one is there twice", withTypes(numbered(1, "t2"), numbered(2, ""), numbered(2, "t1")), api.ErrTwice, 3)
	for _, down := range []bool{false, true} {
		for _, count := range []int{api.MaxSups, api.MaxSups + 1, api.MaxSups + 2, 600} {
			s := withTypes(chain(count, down)...)
			switch at := 1 + api.MaxSups + 1; {
			case count == api.MaxSups:
				wantNew(t, "as many as may be", s, api.OK, 0)
			case down:
				wantNew(t, "too many, the lowest first", s, api.ErrLong, 1)
			default:
				wantNew(t, "too many, the topmost first", s, api.ErrLong, at)
			}
		}
	}
	round := chain(600, true)
	round[len(round)-1].Sup = "t590"
	wantNew(t, "a long way to a loop", withTypes(round...), api.ErrLoop, 1)
	astray := chain(600, true)
	astray[len(astray)-1].Sup = "nobody"
	wantNew(t, "a long way to nowhere", withTypes(astray...), api.ErrLong, 1)
}

// chain has a type and count ones above it.
func chain(count int, down bool) []api.Type {
	list := []api.Type{numbered(count+1, "")}
	for n := count; n > 0; n-- {
		list = append(list, numbered(n, fmt.Sprintf("T%d", n+1)))
	}
	if down {
		slices.Reverse(list)
	}
	return list
}

func TestNewRules(t *testing.T) {
	for n := -128; n <= 127; n++ {
		for syntax := -1; syntax <= 9; syntax++ {
			x, k := int8(syntax), int8(n)
			checkNew(t, withTypes(api.Type{Oid: "1.1", Names: []string{"a"}, Syntax: x, Equal: k}))
			checkNew(t, withTypes(api.Type{Oid: "1.1", Names: []string{"a"}, Syntax: x, Order: k}))
			checkNew(t, withTypes(api.Type{Oid: "1.1", Names: []string{"a"}, Syntax: x, Part: k}))
		}
		checkNew(t, withTypes(api.Type{Oid: "1.1", Names: []string{"a"}, Syntax: int8(n)}))
	}
	for index := range 256 {
		for has := range 8 {
			own := api.Type{Oid: "1.1", Names: []string{"a"}, Index: uint8(index)}
			sup := api.Type{Oid: "1.2", Names: []string{"b"}}
			low := own
			low.Sup = "b"
			for kind, field := range []func(*api.Type) *int8{func(x *api.Type) *int8 { return &x.Equal }, func(x *api.Type) *int8 { return &x.Order }, func(x *api.Type) *int8 { return &x.Part }} {
				if has>>kind&1 != 0 {
					*field(&own), *field(&sup) = int8(api.RuleExact+kind), int8(api.RuleFold+kind)
				}
			}
			checkNew(t, withTypes(own))
			checkNew(t, withTypes(low, sup))
			checkNew(t, withTypes(sup, low))
		}
	}
	text := api.Type{Oid: "1.1", Names: []string{"a"}, Equal: api.RuleFold}
	bytes := api.Type{Oid: "1.2", Names: []string{"b"}, Syntax: api.SynBytes, Sup: "a"}
	wantNew(t, "another syntax than its Sup's", withTypes(text, bytes), api.ErrRule, 2)
	wantNew(t, "another syntax than its Sup's, which comes later", withTypes(bytes, text), api.ErrRule, 1)
	wantNew(t, "another rule than its Sup's", withTypes(text, api.Type{Oid: "1.2", Names: []string{"b"}, Sup: "a", Equal: api.RuleExact, Index: api.IxEqual}), api.OK, 0)
	wantNew(t, "a rule of a later Sup that is wrong", withTypes(api.Type{Oid: "1.2", Names: []string{"b"}, Sup: "a", Index: api.IxEqual}, api.Type{Oid: "1.1", Names: []string{"a"}, Equal: api.RuleNumber}), api.ErrRule, 2)
	wantNew(t, "a rule from far above", withTypes(text, api.Type{Oid: "1.2", Names: []string{"b"}, Sup: "a"}, api.Type{Oid: "1.3", Names: []string{"c"}, Sup: "b", Index: api.IxEqual}), api.OK, 0)
}

func TestNewStepsOfTypes(t *testing.T) {
	wrong := api.Type{Oid: "2.5.4.0", Names: append(letters(16), "9"), Sup: "nobody", Syntax: 9}
	wantNew(t, "all four", withTypes(wrong), api.ErrSyntax, 1)
	wrong.Names[16] = "A"
	wantNew(t, "all but ErrSyntax", withTypes(wrong), api.ErrLong, 1)
	wrong.Names = wrong.Names[:1]
	wantNew(t, "the Oid, the Sup, the syntax", withTypes(wrong), api.ErrTwice, 1)
	wrong.Oid = "1.1"
	wantNew(t, "the Sup, the syntax", withTypes(wrong), api.ErrWord, 1)
	wrong.Sup = "a"
	wantNew(t, "a loop, the syntax", withTypes(wrong), api.ErrLoop, 1)
	wrong.Sup = ""
	wantNew(t, "the syntax", withTypes(wrong), api.ErrRule, 1)
	wantNew(t, "an earlier one first", withTypes(wrong, api.Type{}), api.ErrRule, 1)
	wantNew(t, "types first", api.Schema{Types: []api.Type{objectClass(), wrong}, Classes: []api.Class{{}}}, api.ErrRule, 1)
	wantNew(t, "classes ahead of objectClass", api.Schema{Classes: []api.Class{{}}}, api.ErrSyntax, 0)
	deep := chain(17, true)
	deep[0].Syntax = 9
	wantNew(t, "too deep, the syntax", withTypes(deep...), api.ErrLong, 1)
}

func TestNewClasses(t *testing.T) {
	wantNew(t, "any case", withClasses(numberedClass(1, "C2", "1.3"), numberedClass(2), numberedClass(3)), api.OK, 0)
	wantNew(t, "a type's name and Oid", withClasses(api.Class{Oid: "2.5.4.0", Names: []string{"objectClass"}}), api.OK, 0)
	wantNew(t, "one Sup twice", withClasses(numberedClass(1), numberedClass(2, "c1", "C1", "1.1")), api.OK, 0)
	wantNew(t, "an empty Sup", withClasses(numberedClass(1, "")), api.ErrWord, 1)
	wantNew(t, "a type as Sup", withClasses(numberedClass(1, "objectClass")), api.ErrWord, 1)
	wantNew(t, "nobody", withClasses(numberedClass(1, "c2", "nobody"), numberedClass(2)), api.ErrWord, 1)
	wantNew(t, "nobody above a later one", withClasses(numberedClass(1, "c2"), numberedClass(2, "nobody")), api.ErrWord, 2)
	wantNew(t, "itself", withClasses(numberedClass(1, "C1")), api.ErrLoop, 1)
	wantNew(t, "itself and nobody", withClasses(numberedClass(1, "C1", "nobody")), api.ErrWord, 1)
	wantNew(t, "round by the second", withClasses(numberedClass(1, "c3", "c2"), numberedClass(2, "c3", "c1"), numberedClass(3)), api.ErrLoop, 1)
	wantNew(t, "round by a way where one is met twice", withClasses(numberedClass(1, "c2", "c3"), numberedClass(2, "c4"), numberedClass(3, "c4"), numberedClass(4, "c1")), api.ErrLoop, 1)
	wantNew(t, "a diamond", withClasses(numberedClass(1, "c2", "c3"), numberedClass(2, "c4"), numberedClass(3, "c4"), numberedClass(4)), api.OK, 0)
	wantNew(t, "below a loop", withClasses(numberedClass(1, "c2"), numberedClass(2, "c3"), numberedClass(3, "c2")), api.ErrLoop, 2)
	wantNew(t, "no kind", withClasses(api.Class{Oid: "1.1", Names: []string{"a"}, Kind: -1}), api.ErrSyntax, 1)
	wantNew(t, "no kind", withClasses(api.Class{Oid: "1.1", Names: []string{"a"}, Kind: 3}), api.ErrSyntax, 1)
	wantNew(t, "no kind, many names", withClasses(api.Class{Oid: "1.1", Names: letters(17), Kind: 3}), api.ErrSyntax, 1)
	for name, want := range map[string]api.Errno{"objectClass": api.OK, "OBJECTCLASS": api.OK, "2.5.4.0": api.OK, "": api.ErrWord, "a": api.ErrWord, "1.1": api.ErrWord} {
		at := 0
		if want != api.OK {
			at = 1
		}
		wantNew(t, "Must "+name, withClasses(api.Class{Oid: "1.1", Names: []string{"a"}, Must: []string{"objectClass", name}}), want, at)
		wantNew(t, "May "+name, withClasses(api.Class{Oid: "1.1", Names: []string{"a"}, May: []string{"objectClass", name}}), want, at)
	}
}

func TestNewCountsOfSups(t *testing.T) {
	var list []api.Class
	var sups []string
	for n := range 2 * api.MaxSups {
		list, sups = append(list, numberedClass(n)), append(sups, fmt.Sprintf("c%d", n))
	}
	wide := func(count int) api.Schema {
		return withClasses(append(slices.Clone(list), numberedClass(99, sups[:count]...))...)
	}
	wantNew(t, "16 Sups", wide(api.MaxSups), api.OK, 0)
	wantNew(t, "17 Sups", wide(api.MaxSups+1), api.ErrLong, 1+len(list))
	same := numberedClass(99, slices.Repeat([]string{"c0"}, api.MaxSups+1)...)
	wantNew(t, "17 Sups, all the same", withClasses(append(slices.Clone(list), same)...), api.ErrLong, 1+len(list))
	same.Sups = same.Sups[1:]
	wantNew(t, "16 Sups, all the same", withClasses(append(slices.Clone(list), same)...), api.OK, 0)
	low := func(a, b int) api.Schema {
		return withClasses(append(slices.Clone(list), numberedClass(98, sups[:a]...), numberedClass(99, append(sups[a:a+b:a+b], "c98")...))...)
	}
	wantNew(t, "8 and 7 and one above", low(8, 7), api.OK, 0)
	wantNew(t, "8 and 8 and one above", low(8, 8), api.ErrLong, 2+len(list))
	wantNew(t, "16 above the Sup", low(16, 0), api.ErrLong, 2+len(list))
	wantNew(t, "15 above the Sup", low(15, 0), api.OK, 0)
	shared := wide(api.MaxSups)
	shared.Classes[1].Sups, shared.Classes[5].Sups = []string{"c0"}, []string{"c1", "c9"}
	wantNew(t, "16 Sups, some above others", shared, api.OK, 0)
	shared.Classes[1].Sups = []string{"c20", "c0"}
	wantNew(t, "16 Sups, one above one of them", shared, api.ErrLong, 1+len(list))
	for _, count := range []int{api.MaxSups, api.MaxSups + 1, 900} {
		var down []api.Class
		for n := range count {
			down = append(down, numberedClass(n, fmt.Sprintf("C%d", n+1)))
		}
		s := withClasses(append(down, numberedClass(count))...)
		if count == api.MaxSups {
			wantNew(t, "16 one above the other", s, api.OK, 0)
			continue
		}
		wantNew(t, "more one above the other", s, api.ErrLong, 1)
		s.Classes[count].Sups = []string{"c0"}
		wantNew(t, "more, and round", s, api.ErrLoop, 1)
	}
}

// A class that is refused in its turn may have more Sups than there may be: the ones ahead are told of all the same, and soon.
func TestNewOfHugeSups(t *testing.T) {
	var list []api.Class
	for n := range api.MaxTypes - 1 {
		list = append(list, numberedClass(n, "huge"))
	}
	huge := api.Class{Oid: "0.0", Names: []string{"huge"}, Sups: slices.Repeat([]string{"HUGE", "nobody"}, 1<<19)}
	wantSoon := withClasses(append(list, huge)...)
	if x, e, at := schema.New(wantSoon); x != nil || e != api.ErrLong || at != api.MaxTypes {
		t.Errorf("%v at %d", e, at)
	}
}

func TestNewStepsOfClasses(t *testing.T) {
	wrong := api.Class{Oid: "2.5.6.0", Names: append(letters(16), "9"), Sups: slices.Repeat([]string{"nobody"}, 17), Must: []string{"nobody"}}
	top := api.Class{Oid: "2.5.6.0", Names: []string{"top"}}
	wantNew(t, "all", withClasses(top, wrong), api.ErrSyntax, 2)
	wrong.Names = letters(17)
	wantNew(t, "the names, the Sups, the Oid", withClasses(top, wrong), api.ErrLong, 2)
	wrong.Names = letters(16)
	wantNew(t, "the Sups, the Oid", withClasses(top, wrong), api.ErrLong, 2)
	wrong.Sups = wrong.Sups[:16]
	wantNew(t, "the Oid, a Sup", withClasses(top, wrong), api.ErrTwice, 2)
	wrong.Oid = "1.1"
	wantNew(t, "a Sup, a Must", withClasses(top, wrong), api.ErrWord, 2)
	wrong.Sups = []string{"top", "b"}
	wantNew(t, "a loop, a Must", withClasses(top, wrong), api.ErrLoop, 2)
	wrong.Sups = []string{"top"}
	wantNew(t, "a Must", withClasses(top, wrong), api.ErrWord, 2)
	wantNew(t, "a Must, and a later class", withClasses(top, wrong, api.Class{}), api.ErrWord, 2)
	wantNew(t, "a Must, no objectClass", api.Schema{Types: []api.Type{numbered(1, "")}, Classes: []api.Class{top, wrong}}, api.ErrWord, 2)
}

func TestNewOfObjectClass(t *testing.T) {
	wantNew(t, "as it is", api.Schema{Types: []api.Type{objectClass()}}, api.OK, 0)
	for what, c := range map[string]struct {
		do   func(*api.Type)
		want api.Errno
	}{
		"another name":   {func(x *api.Type) { x.Names = []string{"kind"} }, api.ErrType},
		"small letters":  {func(x *api.Type) { x.Names = []string{"objectclass"} }, api.OK},
		"great letters":  {func(x *api.Type) { x.Names = []string{"OBJECTCLASS"} }, api.OK},
		"a second name":  {func(x *api.Type) { x.Names = []string{"kind", "objectClass"} }, api.OK},
		"single":         {func(x *api.Type) { x.Single = true }, api.ErrType},
		"no rule":        {func(x *api.Type) { x.Equal = 0 }, api.ErrType},
		"another syntax": {func(x *api.Type) { x.Syntax, x.Equal = api.SynText, api.RuleFold }, api.ErrType},
		"no rule, text":  {func(x *api.Type) { x.Syntax, x.Equal = api.SynText, 0 }, api.ErrType},
		"another Oid":    {func(x *api.Type) { x.Oid = "1.77" }, api.OK},
	} {
		o := objectClass()
		c.do(&o)
		wantNew(t, what, api.Schema{Types: []api.Type{numbered(1, ""), o}}, c.want, 0)
	}
	o := objectClass()
	o.Equal, o.Sup = 0, "kind"
	wantNew(t, "its Sup's rule", api.Schema{Types: []api.Type{o, {Oid: "1.1", Names: []string{"kind"}, Syntax: api.SynOid, Equal: api.RuleOid}}}, api.OK, 0)
	wantNew(t, "its Sup has none", api.Schema{Types: []api.Type{o, {Oid: "1.1", Names: []string{"kind"}, Syntax: api.SynOid}}}, api.ErrType, 0)
}

// Of schemas that are made by chance, most of them nearly such as may be.
func TestNewOfMixedSchemas(t *testing.T) {
	chance := rand.New(rand.NewSource(5))
	pick := func(words ...string) string { return words[chance.Intn(len(words))] }
	told := map[api.Errno]int{}
	for range 60000 {
		var s api.Schema
		for n := range chance.Intn(5) {
			x := numbered(n, pick("", "", "", "t0", "T1", "1.2", "t3", "t9"))
			if chance.Intn(12) == 0 {
				x.Names = append(x.Names, pick("t0", "T2", "x", "9"))
			}
			if chance.Intn(4) == 0 {
				x.Syntax, x.Equal = api.SynOid, api.RuleOid
			} else if chance.Intn(2) == 0 {
				x.Equal = int8(chance.Intn(6))
			}
			if chance.Intn(4) == 0 {
				x.Index = uint8(1 << chance.Intn(5))
			}
			s.Types = append(s.Types, x)
		}
		s.Types = append(s.Types, objectClass())
		for n := range chance.Intn(6) {
			c := numberedClass(n)
			c.Kind = int8(chance.Intn(3))
			for range chance.Intn(4) {
				c.Sups = append(c.Sups, pick("c0", "C1", "1.2", "c3", "c4"))
			}
			c.Must = append(c.Must, pick("objectClass", "2.5.4.0", "t0", "T1"))
			s.Classes = append(s.Classes, c)
		}
		told[checkNew(t, s)]++
	}
	for _, e := range []api.Errno{api.OK, api.ErrSyntax, api.ErrTwice, api.ErrWord, api.ErrLoop, api.ErrRule} {
		if told[e] < 100 {
			t.Errorf("%v was told %d times", e, told[e])
		}
	}
}
