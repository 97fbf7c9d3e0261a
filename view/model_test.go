package view_test

import (
	"fmt"
	"math/rand"
	"slices"
	"strings"
	"testing"

	"roster/api"
	"roster/name"
	"roster/schema"
	"roster/view"
)

// chapterText is chapter 5's schema S.
const chapterText = `attributetype ( 2.5.4.0 NAME 'objectClass' EQUALITY objectIdentifierMatch SYNTAX 1.3.6.1.4.1.1466.115.121.1.38 )
attributetype ( 2.5.4.41 NAME 'name' EQUALITY caseIgnoreMatch SUBSTR caseIgnoreSubstringsMatch SYNTAX 1.3.6.1.4.1.1466.115.121.1.15 )
attributetype ( 2.5.4.3 NAME ( 'cn' 'commonName' ) SUP name SYNTAX 1.3.6.1.4.1.1466.115.121.1.15 X-INDEX ( 'equal' 'part' ) )
objectclass ( 2.5.6.0 NAME 'top' ABSTRACT MUST objectClass )
objectclass ( 2.5.6.6 NAME 'person' SUP top STRUCTURAL MUST cn MAY name )
`

func chapterSchema(t testing.TB) *schema.Schema {
	t.Helper()
	plain, err := schema.Parse(chapterText)
	if err != nil {
		t.Fatal(err)
	}
	return schemaOf(t, plain)
}

func schemaOf(t testing.TB, plain api.Schema) *schema.Schema {
	t.Helper()
	s, e, at := schema.New(plain)
	if e != api.OK {
		t.Fatalf("the schema is refused: %v at %d", e, at)
	}
	return s
}

// plainSchema has types three deep, the lowest ahead of those above it, and some beside them.
func plainSchema() api.Schema {
	return api.Schema{
		Types: []api.Type{
			{Oid: "1.2", Names: []string{"nick", "shortName", "petName"}, Sup: "CommonName"},
			{Oid: "2.5.4.0", Names: []string{"objectClass"}, Syntax: api.SynOid, Equal: api.RuleOid},
			{Oid: "2.5.4.3", Names: []string{"cn", "commonName"}, Sup: "2.5.4.41"},
			{Oid: "2.5.4.41", Names: []string{"name"}, Equal: api.RuleFold},
			{Oid: "2.5.4.4", Names: []string{"sn", "surname"}, Sup: "NAME", Equal: api.RuleExact},
			{Oid: "1.3", Names: []string{"age"}, Syntax: api.SynNumber, Equal: api.RuleNumber, Single: true},
			{Oid: "1.4", Names: []string{"photo"}, Syntax: api.SynBytes},
		},
		Classes: []api.Class{{Oid: "2.5.6.6", Names: []string{"person"}, Kind: api.ClStructural}},
	}
}

func testSchema(t testing.TB) *schema.Schema {
	t.Helper()
	return schemaOf(t, plainSchema())
}

// made is a record of the name cn=Ann with attributes, each a description and values, parted by |.
func made(attrs ...string) api.Record {
	record := api.Record{Id: 5, Name: api.Name{Rdns: []api.Rdn{{Avas: []api.Ava{{Type: "cn", Value: "Ann"}}}}}}
	for _, attr := range attrs {
		words := strings.Split(attr, "|")
		record.Entry.Attrs = append(record.Entry.Attrs, api.Attr{Desc: words[0], Values: words[1:]})
	}
	return record
}

// written has attributes as made takes them.
func written(attrs []api.Attr) []string {
	var out []string
	for _, attr := range attrs {
		out = append(out, strings.Join(append([]string{attr.Desc}, attr.Values...), "|"))
	}
	return out
}

// bare are attributes as made takes them, without their values.
func bare(attrs []string) []string {
	var out []string
	for _, attr := range attrs {
		desc, _, _ := strings.Cut(attr, "|")
		out = append(out, desc)
	}
	return out
}

// brief cuts what is told where it is long.
func brief(told any) string {
	text := fmt.Sprintf("%q", told)
	if len(text) > 600 {
		return fmt.Sprintf("%s.. (%d bytes)", text[:600], len(text))
	}
	return text
}

// shows checks what is told of a record of made's name, with only and without.
func shows(t testing.TB, s *schema.Schema, r api.Record, wanted []string, want ...string) {
	t.Helper()
	got, e := view.Show(s, r, wanted, false)
	if e != api.OK || got.Name != "cn=Ann" || !slices.Equal(written(got.Attrs), want) {
		t.Errorf("of %s, wanted %s, %s is told, %v, not %s", brief(r.Entry), brief(wanted), brief(got), e, brief(want))
	}
	got, e = view.Show(s, r, wanted, true)
	if e != api.OK || got.Name != "cn=Ann" || !slices.Equal(written(got.Attrs), bare(want)) {
		t.Errorf("of %s, wanted %s, with only %s is told, %v, not %s", brief(r.Entry), brief(wanted), brief(got), e, brief(bare(want)))
	}
}

func refuses(t testing.TB, s *schema.Schema, r api.Record, wanted []string, want api.Errno) {
	t.Helper()
	for _, only := range []bool{false, true} {
		got, e := view.Show(s, r, wanted, only)
		if e != want || got.Name != "" || got.Attrs != nil {
			t.Errorf("of %s, wanted %s, only %t, %s is told, %v, not %v", brief(r), brief(wanted), only, brief(got), e, want)
		}
	}
}

func wants(t testing.TB, s *schema.Schema, wanted []string, want bool, descs ...string) {
	t.Helper()
	for _, desc := range descs {
		if view.Wants(s, wanted, desc) != want {
			t.Errorf("it is %t that %s wants %s", !want, brief(wanted), brief(desc))
		}
	}
}

// plainWants asks each word by itself.
func plainWants(s *schema.Schema, wanted []string, desc string) bool {
	if len(wanted) == 0 {
		return true
	}
	for _, word := range wanted {
		if word == "*" || plainCovers(s, word, desc) {
			return true
		}
	}
	return false
}

// plainCovers goes up from the type of desc, Sup by Sup.
func plainCovers(s *schema.Schema, word, desc string) bool {
	above, fewer, wrong := s.Desc(word)
	place, more, wrongToo := s.Desc(desc)
	if wrong != api.OK || wrongToo != api.OK {
		return false
	}
	for place != above {
		if place = s.Type(s.Plain().Types[place].Sup); place < 0 {
			return false
		}
	}
	for _, option := range fewer {
		if !slices.Contains(more, option) {
			return false
		}
	}
	return true
}

// plainShow asks each attribute by itself.
func plainShow(s *schema.Schema, r api.Record, wanted []string, only bool) (string, []string, api.Errno) {
	text, e := name.Print(r.Name)
	if e != api.OK {
		return "", nil, e
	}
	var all []string
	for _, attr := range r.Entry.Attrs {
		if plainWants(s, wanted, attr.Desc) {
			all = append(all, written([]api.Attr{attr})...)
		}
	}
	if only {
		all = bare(all)
	}
	return text, all, api.OK
}

// dice is seeded chance.
type dice struct{ *rand.Rand }

func diceOf(seed int64) dice { return dice{rand.New(rand.NewSource(seed))} }

func oneOf[T any](d dice, all []T) T { return all[d.Intn(len(all))] }

// someTypes are what descriptions begin with; the last ones are none, or of no type.
var someTypes = []string{"cn", "CommonName", "2.5.4.3", "name", "NAME", "2.5.4.41", "nick", "shortname", "petName", "1.2", "sn", "surname", "2.5.4.4", "age", "1.3", "photo", "objectClass", "zz", "person", "c n", "", "2.5.4.03"}

var someOptions = []string{"x", "X", "y", "lang-en", "LANG-EN", "0", "", "_"}

// desc is a type and a few options; some are wrong.
func (d dice) desc() string {
	desc := oneOf(d, someTypes)
	if d.Intn(2) == 0 {
		desc = oneOf(d, someTypes[:10])
	}
	for range d.Intn(4) {
		desc += ";" + oneOf(d, someOptions[:6])
	}
	if d.Intn(20) == 0 {
		desc += ";" + oneOf(d, someOptions)
	}
	return desc
}

// words are from none to a few, seldom such that all is wanted.
func (d dice) words() []string {
	var words []string
	for range d.Intn(5) {
		words = append(words, d.desc())
	}
	if d.Intn(10) == 0 {
		words = slices.Insert(words, d.Intn(len(words)+1), oneOf(d, []string{"*", "1.1", "**", ""}))
	}
	return words
}

var someNames = []string{"", "cn=Ann", "cn=a+sn=b,ou=x\\,y", "2.5.4.3=\\20"}

// record has a name, and attributes that need not fit the schema.
func (d dice) record() api.Record {
	record := api.Record{Id: d.Uint64()}
	record.Name, _ = name.Parse(oneOf(d, someNames))
	if d.Intn(20) == 0 {
		record.Name.Rdns = append(record.Name.Rdns, api.Rdn{Avas: make([]api.Ava, d.Intn(3))})
	}
	for range d.Intn(8) {
		attr := api.Attr{Desc: d.desc()}
		for range d.Intn(4) {
			attr.Values = append(attr.Values, oneOf(d, []string{"a", "A", "", "b", "1", "\xff"}))
		}
		record.Entry.Attrs = append(record.Entry.Attrs, attr)
	}
	return record
}
