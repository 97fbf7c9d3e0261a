package entry_test

import (
	"fmt"
	"math/rand"
	"slices"
	"strings"
	"testing"

	"roster/api"
	"roster/match"
	"roster/prep"
	"roster/schema"
)

// chapterText is chapter 5's schema S.
const chapterText = `attributetype ( 2.5.4.0 NAME 'objectClass' EQUALITY objectIdentifierMatch SYNTAX 1.3.6.1.4.1.1466.115.121.1.38 )
attributetype ( 2.5.4.41 NAME 'name' EQUALITY caseIgnoreMatch SUBSTR caseIgnoreSubstringsMatch SYNTAX 1.3.6.1.4.1.1466.115.121.1.15 )
attributetype ( 2.5.4.3 NAME ( 'cn' 'commonName' ) SUP name SYNTAX 1.3.6.1.4.1.1466.115.121.1.15 X-INDEX ( 'equal' 'part' ) )
objectclass ( 2.5.6.0 NAME 'top' ABSTRACT MUST objectClass )
objectclass ( 2.5.6.6 NAME 'person' SUP top STRUCTURAL MUST cn MAY name )
`

func chapterSchema(t testing.TB) *schema.Schema {
	t.Helper()
	plain, err := schema.Parse(chapterText)
	if err != nil {
		t.Fatal(err)
	}
	return schemaOf(t, plain)
}

func schemaOf(t testing.TB, plain api.Schema) *schema.Schema {
	t.Helper()
	s, e, at := schema.New(plain)
	if e != api.OK {
		t.Fatalf("the schema is refused: %v at %d", e, at)
	}
	return s
}

// plainSchema has types of all syntaxes, with a rule for equality and without one; the one for classes goes by another name than objectClass.
func plainSchema() api.Schema {
	return api.Schema{
		Types: []api.Type{
			{Oid: "2.5.4.41", Names: []string{"name"}, Equal: api.RuleFold},
			{Oid: "2.5.4.3", Names: []string{"cn", "commonName"}, Sup: "name"},
			{Oid: "2.5.4.4", Names: []string{"sn", "surname"}, Sup: "2.5.4.41", Equal: api.RuleExact},
			{Oid: "2.5.4.0", Names: []string{"kind", "ObjectClass"}, Syntax: api.SynOid, Equal: api.RuleOid},
			{Oid: "1.1", Names: []string{"age"}, Syntax: api.SynNumber, Equal: api.RuleNumber, Order: api.RuleNumberOrder, Single: true},
			{Oid: "1.2", Names: []string{"count"}, Syntax: api.SynNumber, Equal: api.RuleNumber},
			{Oid: "1.3", Names: []string{"tally"}, Syntax: api.SynNumber},
			{Oid: "1.4", Names: []string{"photo"}, Syntax: api.SynBytes},
			{Oid: "1.5", Names: []string{"Blob"}, Syntax: api.SynBytes, Equal: api.RuleBytes},
			{Oid: "1.6", Names: []string{"flag"}, Syntax: api.SynFlag, Equal: api.RuleFlag},
			{Oid: "1.7", Names: []string{"moment"}, Syntax: api.SynTime, Equal: api.RuleTime},
			{Oid: "1.8", Names: []string{"phone"}, Syntax: api.SynPhone, Equal: api.RulePhone},
			{Oid: "1.9", Names: []string{"digits"}, Syntax: api.SynDigits, Equal: api.RuleDigits},
			{Oid: "1.10", Names: []string{"seeAlso"}, Syntax: api.SynName, Equal: api.RuleName},
			{Oid: "1.11", Names: []string{"bare"}},
			{Oid: "1.12", Names: []string{"years"}, Sup: "age", Syntax: api.SynNumber},
			{Oid: "1.13", Names: []string{"age-b"}, Syntax: api.SynNumber, Equal: api.RuleNumber, Single: true},
			{Oid: "1.14", Names: []string{"kindBelow"}, Sup: "kind", Syntax: api.SynOid},
			{Oid: "1.15", Names: []string{"alone"}, Equal: api.RuleFold},
			{Oid: "1.16", Names: []string{"bareName"}, Syntax: api.SynName},
		},
		Classes: []api.Class{
			{Oid: "2.5.6.0", Names: []string{"top"}, Must: []string{"objectClass"}},
			{Oid: "2.5.6.6", Names: []string{"person", "human"}, Sups: []string{"top"}, Kind: api.ClStructural, Must: []string{"cn"}, May: []string{"name", "age", "age-b", "photo", "count", "tally", "Blob"}},
			{Oid: "2.5.6.7", Names: []string{"named"}, Kind: api.ClStructural, Must: []string{"name"}, May: []string{"cn", "age"}},
			{Oid: "2.5.6.8", Names: []string{"roomy"}, Kind: api.ClStructural, May: []string{"name", "age", "age-b", "years", "count", "tally", "photo", "Blob", "flag", "moment", "phone", "digits", "seeAlso", "bare", "alone", "bareName"}},
			{Oid: "2.5.6.9", Names: []string{"extra"}, Kind: api.ClAuxiliary, May: []string{"sn"}},
			{Oid: "2.5.6.10", Names: []string{"strict"}, Kind: api.ClAuxiliary, Must: []string{"age", "photo"}},
		},
	}
}

func testSchema(t testing.TB) *schema.Schema {
	t.Helper()
	return schemaOf(t, plainSchema())
}

// made is an entry of descriptions and values, parted by |.
func made(attrs ...string) api.Entry {
	var e api.Entry
	for _, attr := range attrs {
		e.Attrs = append(e.Attrs, attrOf(attr))
	}
	return e
}

func attrOf(text string) api.Attr {
	words := strings.Split(text, "|")
	return api.Attr{Desc: words[0], Values: words[1:]}
}

// with has these attributes behind the entry's own.
func with(e api.Entry, attrs ...api.Attr) api.Entry {
	return api.Entry{Attrs: slices.Concat(e.Attrs, attrs)}
}

func mod(op int8, attr string) api.Mod {
	return api.Mod{Op: op, Attr: attrOf(attr)}
}

func shown(e api.Entry) string {
	var all []string
	for _, attr := range e.Attrs {
		all = append(all, strings.Join(append([]string{attr.Desc}, attr.Values...), "|"))
	}
	return brief(strings.Join(all, "; "))
}

func shownMods(mods []api.Mod) string {
	var all []string
	for _, mod := range mods {
		all = append(all, fmt.Sprintf("%d %s", mod.Op, shown(api.Entry{Attrs: []api.Attr{mod.Attr}})))
	}
	return brief(strings.Join(all, ", "))
}

func brief(text string) string {
	if len(text) > 300 {
		return fmt.Sprintf("%q.. (%d bytes)", text[:300], len(text))
	}
	return text
}

// isSame holds two entries against one another; lists without anything are the same (R6).
func isSame(a, b api.Entry) bool {
	if len(a.Attrs) != len(b.Attrs) {
		return false
	}
	for i := range a.Attrs {
		if a.Attrs[i].Desc != b.Attrs[i].Desc || !slices.Equal(a.Attrs[i].Values, b.Attrs[i].Values) {
			return false
		}
	}
	return true
}

// modelTidy does what P8.1 says, value by value against all those ahead.
func modelTidy(s *schema.Schema, e api.Entry) (api.Entry, api.Errno, int) {
	if len(e.Attrs) > api.MaxAttrs {
		return api.Entry{}, api.ErrLong, 0
	}
	var out api.Entry
	for at, attr := range e.Attrs {
		place, _, code := s.Desc(attr.Desc)
		if code != api.OK {
			return api.Entry{}, code, at
		}
		if len(attr.Values) == 0 {
			return api.Entry{}, api.ErrLack, at
		}
		if len(attr.Values) > api.MaxValues {
			return api.Entry{}, api.ErrLong, at
		}
		for _, value := range attr.Values {
			if code := modelTake(s, &out, place, attr.Desc, value); code != api.OK {
				return api.Entry{}, code, at
			}
		}
	}
	modelSort(s, out)
	return out, api.OK, 0
}

func modelTake(s *schema.Schema, out *api.Entry, place int, desc, value string) api.Errno {
	if len(value) > api.MaxText {
		return api.ErrLong
	}
	if !match.Fits(s, place, value) {
		return api.ErrValue
	}
	canon, _ := s.Canon(desc)
	own := modelValues(*out, canon)
	if modelFind(s, place, own, value) >= 0 {
		return api.ErrHave
	}
	*out = modelWith(*out, canon, append(own, value))
	return modelRoom(*out)
}

// modelValues are the values under just that description.
func modelValues(e api.Entry, canon string) []string {
	for _, attr := range e.Attrs {
		if attr.Desc == canon {
			return slices.Clone(attr.Values)
		}
	}
	return nil
}

// modelFind is where a value stands that is the same; -1, if there is none.
func modelFind(s *schema.Schema, place int, values []string, value string) int {
	for i, other := range values {
		if match.Same(s, place, other, value) {
			return i
		}
	}
	return -1
}

// modelWith is the entry with these values under that description; without it, if there are none.
func modelWith(e api.Entry, canon string, values []string) api.Entry {
	var out api.Entry
	for _, attr := range e.Attrs {
		if attr.Desc != canon {
			out.Attrs = append(out.Attrs, attr)
		}
	}
	if len(values) > 0 {
		out.Attrs = append(out.Attrs, api.Attr{Desc: canon, Values: values})
	}
	return out
}

func modelRoom(e api.Entry) api.Errno {
	bytes := 0
	for _, attr := range e.Attrs {
		if len(attr.Values) > api.MaxValues {
			return api.ErrLong
		}
		bytes += len(attr.Desc)
		for _, value := range attr.Values {
			bytes += len(value)
		}
	}
	if len(e.Attrs) > api.MaxAttrs || bytes > api.MaxBytes {
		return api.ErrLong
	}
	return api.OK
}

// modelSort brings attributes and values in the order of a tidy entry.
func modelSort(s *schema.Schema, e api.Entry) {
	slices.SortFunc(e.Attrs, func(a, b api.Attr) int { return strings.Compare(a.Desc, b.Desc) })
	for _, attr := range e.Attrs {
		place, _, _ := s.Desc(attr.Desc)
		rule := s.Full(place).Equal
		slices.SortFunc(attr.Values, func(a, b string) int {
			keyA, _ := match.Key(s, rule, a)
			keyB, _ := match.Key(s, rule, b)
			if rule == api.RuleNone || keyA == keyB {
				return strings.Compare(a, b)
			}
			return strings.Compare(keyA, keyB)
		})
	}
}

// modelCheck does what P8.2 says.
func modelCheck(s *schema.Schema, e api.Entry) (api.Errno, int) {
	tidy, code, at := modelTidy(s, e)
	if code != api.OK {
		return code, at
	}
	class := s.Type("objectclass")
	var classes []string
	for _, attr := range tidy.Attrs {
		if place, options, _ := s.Desc(attr.Desc); place == class && len(options) == 0 {
			classes = attr.Values
		}
	}
	must, may, code := s.Needs(classes)
	if len(classes) == 0 || code != api.OK {
		return api.ErrClass, 0
	}
	for _, high := range must {
		if !slices.ContainsFunc(tidy.Attrs, func(attr api.Attr) bool { return modelLies(s, placeOf(s, attr.Desc), high) }) {
			return api.ErrMust, 0
		}
	}
	for at, attr := range tidy.Attrs {
		if place := placeOf(s, attr.Desc); place != class && !slices.Contains(must, place) && !slices.Contains(may, place) {
			return api.ErrMay, at
		}
	}
	for at, attr := range tidy.Attrs {
		place, many := placeOf(s, attr.Desc), 0
		for _, other := range tidy.Attrs {
			if placeOf(s, other.Desc) == place {
				many += len(other.Values)
			}
		}
		if s.Plain().Types[place].Single && many > 1 {
			return api.ErrMany, at
		}
	}
	return api.OK, 0
}

func placeOf(s *schema.Schema, desc string) int {
	place, _, _ := s.Desc(desc)
	return place
}

// modelLies tells whether going up by Sups one comes from low to high.
func modelLies(s *schema.Schema, low, high int) bool {
	for place := low; place >= 0; place = s.Type(s.Full(place).Sup) {
		if place == high {
			return true
		}
	}
	return false
}

// modelApply does what P8.3 says.
func modelApply(s *schema.Schema, e api.Entry, mods []api.Mod) (api.Entry, api.Errno, int) {
	if len(mods) > api.MaxMods {
		return api.Entry{}, api.ErrLong, 0
	}
	now, code, _ := modelTidy(s, e)
	if code != api.OK {
		return api.Entry{}, code, 0
	}
	for at, mod := range mods {
		if now, code = modelChange(s, now, mod); code != api.OK {
			return api.Entry{}, code, at
		}
	}
	if code, _ := modelCheck(s, now); code != api.OK {
		return api.Entry{}, code, len(mods)
	}
	modelSort(s, now)
	return now, api.OK, 0
}

func modelChange(s *schema.Schema, e api.Entry, mod api.Mod) (api.Entry, api.Errno) {
	if mod.Op < api.ModAdd || mod.Op > api.ModMore {
		return e, api.ErrMod
	}
	place, _, code := s.Desc(mod.Attr.Desc)
	if code != api.OK {
		return e, code
	}
	if len(mod.Attr.Values) > api.MaxValues {
		return e, api.ErrLong
	}
	for _, value := range mod.Attr.Values {
		if len(value) > api.MaxText {
			return e, api.ErrLong
		}
	}
	canon, _ := s.Canon(mod.Attr.Desc)
	do := []func(*schema.Schema, int, []string, []string) ([]string, api.Errno){modelAdd, modelDelete, modelReplace, modelMore}[mod.Op]
	values, code := do(s, place, modelValues(e, canon), mod.Attr.Values)
	if code != api.OK {
		return e, code
	}
	e = modelWith(e, canon, values)
	return e, modelRoom(e)
}

func modelAdd(s *schema.Schema, place int, own, values []string) ([]string, api.Errno) {
	if len(values) == 0 {
		return nil, api.ErrLack
	}
	for i, value := range values {
		if !match.Fits(s, place, value) {
			return nil, api.ErrValue
		}
		if modelFind(s, place, own, value) >= 0 || modelFind(s, place, values[:i], value) >= 0 {
			return nil, api.ErrHave
		}
	}
	return slices.Concat(own, values), api.OK
}

func modelDelete(s *schema.Schema, place int, own, values []string) ([]string, api.Errno) {
	if len(values) == 0 {
		if len(own) == 0 {
			return nil, api.ErrLack
		}
		return nil, api.OK
	}
	own = slices.Clone(own)
	for _, value := range values {
		i := modelFind(s, place, own, value)
		if i < 0 {
			return nil, api.ErrLack
		}
		own = slices.Delete(own, i, i+1)
	}
	return own, api.OK
}

func modelReplace(s *schema.Schema, place int, own, values []string) ([]string, api.Errno) {
	if len(values) == 0 {
		return nil, api.OK
	}
	return modelAdd(s, place, nil, values)
}

func modelMore(s *schema.Schema, place int, own, values []string) ([]string, api.Errno) {
	if len(values) != 1 || s.Full(place).Syntax != api.SynNumber {
		return nil, api.ErrMod
	}
	if !match.Fits(s, place, values[0]) {
		return nil, api.ErrValue
	}
	if len(own) == 0 {
		return nil, api.ErrLack
	}
	var sums []string
	for _, value := range own {
		sum, ok := prep.Add(value, values[0])
		if !ok || len(sum) > api.MaxText {
			return nil, api.ErrValue
		}
		sums = append(sums, sum)
	}
	return sums, api.OK
}

// randomDescs are some that are known, of which many come together under one Canon, and some that are not.
var randomDescs = []string{
	"cn", "CN", "commonName", "2.5.4.3", "cn;x", "cn;X", "commonname;y;X", "cn;x;y", "name", "Name;x", "sn", "age", "AGE;x", "age;x", "1.1", "age-b", "years", "count", "Count;x", "tally", "1.3",
	"photo", "photo;x", "blob", "flag", "moment", "phone", "digits", "seeAlso", "bare", "alone", "kindBelow", "objectClass", "kind", "objectclass;x", "bareName",
	"", "zz", "cn;", "9.9", "c n", ";x",
}

// randomValues has of each syntax some that fit, many of them the same as others.
var randomValues = []string{
	"a", "A", " a ", "b", "a  B", "A b", "é", "", " ", "\xff",
	"0", "1", "-1", "9", "10", "-10", "99", "01", "-0", "1 0",
	"TRUE", "FALSE", "true", "20240229235959Z", "20240229235959.0Z", "20240301005959+0100", "20230229000000Z",
	"+49 30", "+4930", "-", "person", "PERSON", "2.5.6.6", "top", "named", "human", "extra", "roomy", "cn=a", "CN=A", "cn=b", "zz=a",
}

// dice make entries and changes by chance, always the same ones.
type dice struct {
	*rand.Rand
	s    *schema.Schema
	fits [][]string // by the types' places the values that fit
}

func diceOf(s *schema.Schema, seed int64) dice {
	d := dice{rand.New(rand.NewSource(seed)), s, nil}
	for place := range s.Plain().Types {
		d.fits = append(d.fits, slices.DeleteFunc(slices.Clone(randomValues), func(value string) bool { return !match.Fits(s, place, value) }))
	}
	return d
}

// attr has mostly a description that is known and values that fit.
func (d dice) attr(most int) api.Attr {
	desc := randomDescs[d.Intn(len(randomDescs))]
	place, _, code := d.s.Desc(desc)
	for code != api.OK && d.Intn(8) > 0 {
		desc = randomDescs[d.Intn(len(randomDescs))]
		place, _, code = d.s.Desc(desc)
	}
	values := randomValues
	if code == api.OK && d.Intn(10) > 0 {
		values = d.fits[place]
	}
	attr := api.Attr{Desc: desc}
	for range d.Intn(most + 1) {
		attr.Values = append(attr.Values, values[d.Intn(len(values))])
	}
	return attr
}

// entry has mostly classes and what these must have.
func (d dice) entry() api.Entry {
	var e api.Entry
	if d.Intn(8) > 0 {
		classes := [][]string{{"person"}, {"HUMAN", "top"}, {"named"}, {"roomy"}, {"roomy", "extra"}, {"2.5.6.6", "extra"}, {"named", "strict"}}
		e.Attrs = append(e.Attrs, api.Attr{Desc: "objectClass", Values: classes[d.Intn(len(classes))]})
	}
	if d.Intn(4) > 0 {
		e.Attrs = append(e.Attrs, api.Attr{Desc: []string{"cn", "cn;x", "commonName"}[d.Intn(3)], Values: []string{"Ann"}})
	}
	for range d.Intn(4) {
		attr := d.attr(2)
		if len(attr.Values) > 0 || d.Intn(8) == 0 {
			e.Attrs = append(e.Attrs, attr)
		}
	}
	d.Shuffle(len(e.Attrs), func(i, j int) { e.Attrs[i], e.Attrs[j] = e.Attrs[j], e.Attrs[i] })
	return e
}

func (d dice) mods() []api.Mod {
	var mods []api.Mod
	for range d.Intn(5) {
		op := int8(d.Intn(4))
		if d.Intn(40) == 0 {
			op = int8(d.Intn(256) - 128)
		}
		mods = append(mods, api.Mod{Op: op, Attr: d.attr(2)})
	}
	return mods
}
