package schema_test

import (
	"math/rand"
	"slices"
	"strings"
	"testing"

	"roster/api"
	"roster/schema"
)

// mixed makes schemas by chance that Print takes, whether they go together or not.
type mixed struct{ *rand.Rand }

func (m mixed) pick(words ...string) string { return words[m.Intn(len(words))] }

func (m mixed) oid() string {
	return m.pick("0.0", "1.2", "2.5.4.3", "10.0.200", "0.1.0.1", strings.Repeat("7.", 50)+"7")
}

func (m mixed) x() string {
	return m.pick("a", "Z-9", "NAME", "SUP", "ABSTRACT", "MUST", "X-INDEX", "b--", "1.2", "0.0.0", "attributetype", strings.Repeat("q", 100))
}

func (m mixed) list(one func() string) []string {
	var list []string
	for range m.Intn(4) {
		list = append(list, one())
	}
	return list
}

func (m mixed) names() []string {
	return append(m.list(m.name), m.name())
}

func (m mixed) name() string {
	return m.pick("", "a", "a b", " ", "\t", "#", "(", ")", "$", "\r", "\x00", "\xff\xfe", "é", "1.2", "NAME", "\"", "\\", strings.Repeat("n", 200))
}

func (m mixed) rule() int8 { return int8(m.Intn(21)) }

func (m mixed) schema() api.Schema {
	var s api.Schema
	for range m.Intn(4) {
		s.Types = append(s.Types, api.Type{Oid: m.oid(), Names: m.names(), Sup: m.pick("", m.x()), Syntax: int8(m.Intn(9)), Equal: m.rule(), Order: m.rule() * int8(m.Intn(2)), Part: m.rule() * int8(m.Intn(2)), Single: m.Intn(2) == 0, Index: uint8(m.Intn(16))})
	}
	for range m.Intn(4) {
		s.Classes = append(s.Classes, api.Class{Oid: m.oid(), Names: m.names(), Sups: m.list(m.x), Kind: int8(m.Intn(3)), Must: m.list(m.x), May: m.list(m.x)})
	}
	return s
}

func TestPrintAndParseThereAndBack(t *testing.T) {
	m := mixed{rand.New(rand.NewSource(11))}
	for range 5000 {
		s := m.schema()
		checkPrint(t, s)
		text, e := schema.Print(s)
		if e != api.OK {
			t.Fatalf("Print(%s): %v", brief(s), e)
		}
		back := mustParse(t, text)
		if !sameSchema(back, s) {
			t.Errorf("Parse(%s) = %s, want %s", brief(text), brief(back), brief(s))
		}
		if !emptyAsNil(back) {
			t.Errorf("Parse(%s) has an empty list that is not nil", brief(text))
		}
	}
}

func emptyAsNil(s api.Schema) bool {
	lists := [][]string{}
	for _, x := range s.Types {
		lists = append(lists, x.Names)
	}
	for _, c := range s.Classes {
		lists = append(lists, c.Names, c.Sups, c.Must, c.May)
	}
	for _, list := range lists {
		if len(list) == 0 && list != nil {
			return false
		}
	}
	return (len(s.Types) > 0 || s.Types == nil) && (len(s.Classes) > 0 || s.Classes == nil)
}

// loose writes a schema as freely as may be: classes among types, blanks or none, ( ) around one, rules by Oids, remarks.
func (m mixed) loose(s api.Schema) string {
	var types, classes []string
	for _, x := range s.Types {
		types = append(types, m.loosen(first(modelTypeLine(x))))
	}
	for _, c := range s.Classes {
		line := first(modelClassLine(c))
		if c.Kind == api.ClStructural && m.Intn(2) == 0 {
			line = first(modelClassLine(api.Class{Oid: c.Oid, Names: c.Names, Sups: c.Sups, Must: c.Must, May: c.May}))
			line = dropAbstract(line, c)
		}
		classes = append(classes, m.loosen(line))
	}
	text := ""
	for len(types)+len(classes) > 0 {
		text += m.pick("", "\n", "# '(\n", "\t \n", " #\n")
		if len(types) > 0 && (len(classes) == 0 || m.Intn(2) == 0) {
			text, types = text+types[0]+"\n", types[1:]
		} else {
			text, classes = text+classes[0]+"\n", classes[1:]
		}
	}
	return strings.TrimSuffix(text, m.pick("\n", "x"))
}

func first(line string, ok bool) string {
	if !ok {
		return "?"
	}
	return line
}

// dropAbstract takes the kind's word out: the first word ABSTRACT behind the names and the Sups.
func dropAbstract(line string, c api.Class) string {
	before := first(modelClassLine(api.Class{Oid: c.Oid, Names: c.Names, Sups: c.Sups}))
	at := strings.LastIndex(before, "ABSTRACT")
	return line[:at] + line[at+len("ABSTRACT"):]
}

func (m mixed) loosen(line string) string {
	words := ofLine.FindAllString(line, -1)
	for k, w := range words {
		for _, row := range ruleRows {
			if w == row.name && m.Intn(3) == 0 {
				words[k] = m.pick(row.oid, strings.ToUpper(w), strings.ToLower(w))
			}
		}
	}
	text := m.pick("", " ", "\t")
	for k, w := range words {
		if k > 0 {
			text += m.between(words[k-1], w)
		}
		text += w
	}
	return text + m.pick("", " ", "\t\t ")
}

func (m mixed) between(a, b string) string {
	if strings.ContainsAny(a[len(a)-1:]+b[:1], "()$'") {
		return m.pick("", " ", "\t", "  ")
	}
	return m.pick(" ", "\t", " \t ")
}

func TestParseOfLooseTexts(t *testing.T) {
	m := mixed{rand.New(rand.NewSource(13))}
	for range 5000 {
		s := m.schema()
		text := m.loose(s)
		back := mustParse(t, text)
		if !sameSchema(back, s) {
			t.Fatalf("Parse(%s) = %s, want %s", brief(text), brief(back), brief(s))
		}
		printed, e := schema.Print(back)
		if e != api.OK || !sameSchema(mustParse(t, printed), back) {
			t.Errorf("Print of Parse(%s): %v", brief(text), e)
		}
	}
}

func TestNoTwoTypesLieBelowOneAnother(t *testing.T) {
	s := mustParse(t, wideSchema)
	x := mustNew(t, s)
	for a := range s.Types {
		for b := range s.Types {
			below := slices.Contains(x.Below(b), a)
			if below != slices.Contains(modelUps(s, a), b) || a != b && below && slices.Contains(x.Below(a), b) {
				t.Errorf("%d below %d: %v", a, b, below)
			}
		}
	}
}

func TestCoversGoesOn(t *testing.T) {
	x := mustMake(t, wideSchema)
	covers := map[string][]string{}
	for _, d := range someDescs {
		for _, e := range someDescs {
			if x.Covers(d, e) {
				covers[d] = append(covers[d], e)
			}
		}
	}
	for _, d := range someDescs {
		_, _, e := x.Desc(d)
		if (e == api.OK) != slices.Contains(covers[d], d) {
			t.Errorf("%s and itself", d)
		}
		for _, low := range covers[d] {
			for _, lower := range covers[low] {
				if !slices.Contains(covers[d], lower) {
					t.Errorf("%s covers %s, that %s, but not the first the last", d, low, lower)
				}
			}
		}
	}
}

func TestCanonOfCanon(t *testing.T) {
	x := mustMake(t, wideSchema)
	for _, d := range someDescs {
		c, e := x.Canon(d)
		if e != api.OK {
			continue
		}
		again, e := x.Canon(c)
		if again != c || e != api.OK || !x.Covers(c, d) || !x.Covers(d, c) {
			t.Errorf("%s: %s, %s, %v", d, c, again, e)
		}
	}
}
