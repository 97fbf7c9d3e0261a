package rank_test

import (
	"fmt"
	"math/rand"
	"slices"
	"strconv"
	"strings"
	"testing"

	"roster/api"
	"roster/match"
	"roster/rank"
	"roster/schema"
)

// plainSchema has types of all syntaxes, with rules for order, for equality alone, for pieces alone and with none; sn and years have other rules than what they lie below, mixed other ones for order than for equality.
func plainSchema() api.Schema {
	return api.Schema{
		Types: []api.Type{
			{Oid: "2.5.4.0", Names: []string{"objectClass"}, Syntax: api.SynOid, Equal: api.RuleOid},
			{Oid: "2.5.4.41", Names: []string{"name"}, Equal: api.RuleFold, Order: api.RuleFoldOrder},
			{Oid: "2.5.4.3", Names: []string{"cn", "commonName"}, Sup: "name"},
			{Oid: "2.5.4.4", Names: []string{"sn", "surname"}, Sup: "2.5.4.41", Equal: api.RuleExact, Order: api.RuleExactOrder},
			{Oid: "1.1", Names: []string{"age"}, Syntax: api.SynNumber, Equal: api.RuleNumber},
			{Oid: "1.2", Names: []string{"years"}, Sup: "age", Syntax: api.SynNumber, Order: api.RuleNumberOrder},
			{Oid: "1.3", Names: []string{"tally"}, Syntax: api.SynNumber},
			{Oid: "1.4", Names: []string{"photo"}, Syntax: api.SynBytes},
			{Oid: "1.5", Names: []string{"blob"}, Syntax: api.SynBytes, Order: api.RuleBytesOrder},
			{Oid: "1.6", Names: []string{"flag"}, Syntax: api.SynFlag, Equal: api.RuleFlag},
			{Oid: "1.7", Names: []string{"moment"}, Syntax: api.SynTime, Equal: api.RuleTime, Order: api.RuleTimeOrder},
			{Oid: "1.8", Names: []string{"phone"}, Syntax: api.SynPhone, Equal: api.RulePhone, Part: api.RulePhonePart},
			{Oid: "1.9", Names: []string{"digits"}, Syntax: api.SynDigits, Equal: api.RuleDigits, Order: api.RuleDigitsOrder},
			{Oid: "1.10", Names: []string{"seeAlso"}, Syntax: api.SynName, Equal: api.RuleName},
			{Oid: "1.11", Names: []string{"bare"}},
			{Oid: "1.12", Names: []string{"mixed"}, Equal: api.RuleExact, Order: api.RuleFoldOrder},
			{Oid: "1.13", Names: []string{"pieced"}, Part: api.RuleFoldPart},
			{Oid: "1.14", Names: []string{"kind"}, Syntax: api.SynOid, Equal: api.RuleOid},
		},
		Classes: []api.Class{{Oid: "2.5.6.6", Names: []string{"person", "human"}, Kind: api.ClStructural}},
	}
}

func testSchema(t testing.TB) *schema.Schema {
	t.Helper()
	s, e, at := schema.New(plainSchema())
	if e != api.OK {
		t.Fatalf("the schema is refused: %v at %d", e, at)
	}
	return s
}

// made is a record with attributes, each a description and values, parted by |.
func made(attrs ...string) api.Record {
	var record api.Record
	for _, attr := range attrs {
		words := strings.Split(attr, "|")
		record.Entry.Attrs = append(record.Entry.Attrs, api.Attr{Desc: words[0], Values: words[1:]})
	}
	return record
}

// each is records of one attribute each; an empty text is one without any.
func each(attrs ...string) []api.Record {
	var l []api.Record
	for _, attr := range attrs {
		if attr == "" {
			l = append(l, made())
		} else {
			l = append(l, made(attr))
		}
	}
	return l
}

// keysOf are sort keys, each a description and, behind a blank, a rule, with ! ahead where it is turned round.
func keysOf(texts ...string) []api.SortKey {
	var keys []api.SortKey
	for _, text := range texts {
		text, back := strings.CutPrefix(text, "!")
		desc, rule, _ := strings.Cut(text, " ")
		keys = append(keys, api.SortKey{Desc: desc, Rule: rule, Back: back})
	}
	return keys
}

// brief cuts what is told where it is long.
func brief(told any) string {
	text := fmt.Sprintf("%q", told)
	if len(text) > 600 {
		return fmt.Sprintf("%s.. (%d bytes)", text[:600], len(text))
	}
	return text
}

func sorts(t testing.TB, s *schema.Schema, l []api.Record, keys []api.SortKey, want ...int) {
	t.Helper()
	got, e := rank.Sort(s, l, keys)
	if e != api.OK || !slices.Equal(got, want) {
		t.Errorf("Sort of %s by %s is %d, %v, not %d", brief(l), brief(keys), got, e, want)
	}
}

func refuses(t testing.TB, s *schema.Schema, l []api.Record, keys []api.SortKey, want api.Errno) {
	t.Helper()
	got, e := rank.Sort(s, l, keys)
	if e != want || len(got) != 0 {
		t.Errorf("Sort of %s by %s is %d, %v, not %v", brief(l), brief(keys), got, e, want)
	}
}

// plainRule is the rule of a key, and whether the schema has such a key.
func plainRule(s *schema.Schema, key api.SortKey) (int8, bool) {
	place, _, e := s.Desc(key.Desc)
	if e != api.OK {
		return 0, false
	}
	of := s.Full(place)
	if key.Rule == "" && of.Order != api.RuleNone {
		return of.Order, true
	}
	if key.Rule == "" {
		return of.Equal, of.Equal != api.RuleNone
	}
	rule := schema.Rule(key.Rule)
	_, syntax := schema.Form(rule)
	return rule, strings.HasSuffix(schema.RuleName(rule), "OrderingMatch") && syntax == of.Syntax
}

// plainKey is a record's key under a sort key, if it has one.
func plainKey(s *schema.Schema, record api.Record, key api.SortKey) (string, bool) {
	rule, _ := plainRule(s, key)
	var all []string
	for _, attr := range record.Entry.Attrs {
		if !s.Covers(key.Desc, attr.Desc) {
			continue
		}
		for _, value := range attr.Values {
			if one, has := match.Key(s, rule, value); has {
				all = append(all, one)
			}
		}
	}
	if len(all) == 0 {
		return "", false
	}
	if key.Back {
		return slices.Max(all), true
	}
	return slices.Min(all), true
}

// differ is below 0, if a comes ahead of b by the sort keys, above 0, if b does of a, and 0, if they differ in none.
func differ(s *schema.Schema, a, b api.Record, keys []api.SortKey) int {
	for _, key := range keys {
		one, has := plainKey(s, a, key)
		other, likewise := plainKey(s, b, key)
		if has != likewise {
			return map[bool]int{true: -1, false: 1}[has]
		}
		if one != other {
			return map[bool]int{true: -1, false: 1}[one < other != key.Back]
		}
	}
	return 0
}

// plainSort looks at every pair: a record's place is how many come ahead of it.
func plainSort(s *schema.Schema, l []api.Record, keys []api.SortKey) ([]int, api.Errno) {
	if len(keys) == 0 {
		return nil, api.ErrKey
	}
	if len(keys) > 8 {
		return nil, api.ErrLong
	}
	for _, key := range keys {
		if _, known := plainRule(s, key); !known {
			return nil, api.ErrKey
		}
	}
	out := make([]int, len(l))
	for at := range l {
		ahead := 0
		for other := range l {
			way := differ(s, l[other], l[at], keys)
			if way < 0 || way == 0 && other < at {
				ahead++
			}
		}
		out[ahead] = at
	}
	return out, api.OK
}

// plainPage goes over the numbers one by one.
func plainPage(ids []uint64, cookie string, n int) (part []uint64, next string, e api.Errno) {
	if n < 1 {
		return nil, "", api.ErrArg
	}
	from := -1
	for at := 0; at <= len(ids); at++ {
		if at == 0 && cookie == "" || at > 0 && cookie == strconv.Itoa(at) {
			from = at
		}
	}
	if from < 0 {
		return nil, "", api.ErrCookie
	}
	for at := from; at < len(ids); at++ {
		if len(part) == n {
			return part, strconv.Itoa(at), api.OK
		}
		part = append(part, ids[at])
	}
	return part, "", api.OK
}

// dice is seeded chance.
type dice struct{ *rand.Rand }

func diceOf(seed int64) dice { return dice{rand.New(rand.NewSource(seed))} }

func oneOf[T any](d dice, all []T) T { return all[d.Intn(len(all))] }

// someDescs are what attributes and sort keys go by; the last ones are none, or of no type.
var someDescs = []string{"cn", "CommonName", "2.5.4.3", "cn;x", "cn;X;y", "name", "name;x", "sn", "surname;y", "age", "years", "blob", "flag", "moment", "phone", "digits", "seeAlso", "mixed", "kind", "tally", "photo", "bare", "pieced", "objectClass", "zz", "c n", ""}

// someValues are of all syntaxes; some are of none but bytes, and some have the keys of others.
var someValues = []string{"a", "A", " a ", "b", "B", "c", "1", "10", "9", "-1", "-10", "0", "TRUE", "FALSE", "20240101000000Z", "20240101000000.5Z", "20240101010000+0100", "1 0", "+1-0", "cn=a", "CN=A", "cn=b", "1.1", "cn", "2.5.4.3", "person", "2.5.6.6", "", "\xff"}

var someRules = []string{"", "", "", "", "caseIgnoreOrderingMatch", "CASEEXACTORDERINGMATCH", "2.5.13.3", "2.5.13.6", "integerOrderingMatch", "2.5.13.15", "numericStringOrderingMatch", "generalizedTimeOrderingMatch", "2.5.13.18", "caseIgnoreMatch", "integerMatch", "2.5.13.4", "2.5.13.", "noMatch", "cn"}

// goodKeys are sort keys that the schema has.
var goodKeys = []string{"cn", "!cn", "CN;x", "!name", "name", "name 2.5.13.6", "name;X", "sn", "!sn caseIgnoreOrderingMatch", "age", "!age 2.5.13.15", "years", "tally integerOrderingMatch", "blob", "!photo 2.5.13.18", "flag", "!moment", "phone", "!digits", "seeAlso", "!mixed", "kind", "bare 2.5.13.3", "!pieced caseExactOrderingMatch", "objectClass"}

// record has a few attributes, some of which cover others; the values need not fit.
func (d dice) record() api.Record {
	var record api.Record
	for range d.Intn(5) {
		attr := api.Attr{Desc: oneOf(d, someDescs)}
		if d.Intn(2) == 0 {
			attr.Desc = oneOf(d, someDescs[:10])
		}
		for range d.Intn(4) {
			attr.Values = append(attr.Values, oneOf(d, someValues))
		}
		record.Entry.Attrs = append(record.Entry.Attrs, attr)
	}
	return record
}

func (d dice) records(most int) []api.Record {
	l := make([]api.Record, d.Intn(most+1))
	for at := range l {
		l[at] = d.record()
	}
	return l
}

// good is from 1 to 8 sort keys, mostly few.
func (d dice) good() []api.SortKey {
	var keys []api.SortKey
	for range 1 + min(d.Intn(8), d.Intn(8)) {
		keys = append(keys, keysOf(oneOf(d, goodKeys))...)
	}
	return keys
}

// any is sort keys that need not be any.
func (d dice) any() []api.SortKey {
	keys := d.good()
	for at := range keys {
		if d.Intn(3) == 0 {
			keys[at] = api.SortKey{Desc: oneOf(d, someDescs), Rule: oneOf(d, someRules), Back: d.Intn(2) == 0}
		}
	}
	if d.Intn(10) == 0 {
		return slices.Repeat(keys, d.Intn(10))
	}
	return keys
}
