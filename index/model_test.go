package index_test

import (
	"fmt"
	"maps"
	"math/rand"
	"slices"
	"strings"
	"testing"

	"roster/api"
	"roster/gram"
	"roster/index"
	"roster/match"
	"roster/schema"
)

const top = 1<<64 - 1

// The places of plainSchema's types.
const (
	tClass = iota
	tName
	tCn
	tSn
	tNick
	tAge
	tYears
	tTally
	tPhoto
	tBlob
	tFlag
	tMoment
	tPhone
	tDigits
	tSeeAlso
	tBare
	tStill
	tMixed
	types
)

const all = api.IxHave | api.IxEqual | api.IxOrder | api.IxPart

// plainSchema has types of all syntaxes: with all bits, some, none; sn has other rules than name, below which it lies; mixed makes other keys for equality than for order and pieces.
func plainSchema() api.Schema {
	return api.Schema{
		Types: []api.Type{
			tClass:   {Oid: "2.5.4.0", Names: []string{"objectClass"}, Syntax: api.SynOid, Equal: api.RuleOid, Index: api.IxHave | api.IxEqual},
			tName:    {Oid: "2.5.4.41", Names: []string{"name"}, Equal: api.RuleFold, Order: api.RuleFoldOrder, Part: api.RuleFoldPart, Index: all},
			tCn:      {Oid: "2.5.4.3", Names: []string{"cn", "commonName"}, Sup: "name", Index: api.IxEqual | api.IxPart},
			tSn:      {Oid: "2.5.4.4", Names: []string{"sn", "surname"}, Sup: "2.5.4.41", Equal: api.RuleExact, Order: api.RuleExactOrder, Part: api.RuleExactPart, Index: all},
			tNick:    {Oid: "1.0", Names: []string{"nick"}, Sup: "cn"},
			tAge:     {Oid: "1.1", Names: []string{"age"}, Syntax: api.SynNumber, Equal: api.RuleNumber, Order: api.RuleNumberOrder, Index: api.IxHave | api.IxEqual | api.IxOrder},
			tYears:   {Oid: "1.2", Names: []string{"years"}, Sup: "age", Syntax: api.SynNumber, Single: true, Index: api.IxOrder},
			tTally:   {Oid: "1.3", Names: []string{"tally"}, Syntax: api.SynNumber, Index: api.IxHave},
			tPhoto:   {Oid: "1.4", Names: []string{"photo"}, Syntax: api.SynBytes},
			tBlob:    {Oid: "1.5", Names: []string{"blob"}, Syntax: api.SynBytes, Equal: api.RuleBytes, Order: api.RuleBytesOrder, Index: api.IxHave | api.IxEqual | api.IxOrder},
			tFlag:    {Oid: "1.6", Names: []string{"flag"}, Syntax: api.SynFlag, Equal: api.RuleFlag, Index: api.IxEqual},
			tMoment:  {Oid: "1.7", Names: []string{"moment"}, Syntax: api.SynTime, Equal: api.RuleTime, Order: api.RuleTimeOrder, Index: api.IxEqual | api.IxOrder},
			tPhone:   {Oid: "1.8", Names: []string{"phone"}, Syntax: api.SynPhone, Equal: api.RulePhone, Part: api.RulePhonePart, Index: api.IxEqual | api.IxPart},
			tDigits:  {Oid: "1.9", Names: []string{"digits"}, Syntax: api.SynDigits, Equal: api.RuleDigits, Order: api.RuleDigitsOrder, Part: api.RuleDigitsPart, Index: all},
			tSeeAlso: {Oid: "1.10", Names: []string{"seeAlso"}, Syntax: api.SynName, Equal: api.RuleName, Index: api.IxHave | api.IxEqual},
			tBare:    {Oid: "1.11", Names: []string{"bare"}, Index: api.IxHave},
			tStill:   {Oid: "1.12", Names: []string{"still"}, Equal: api.RuleFold, Order: api.RuleFoldOrder, Part: api.RuleFoldPart},
			tMixed:   {Oid: "1.13", Names: []string{"mixed"}, Equal: api.RuleExact, Order: api.RuleFoldOrder, Part: api.RuleFoldPart, Index: all},
		},
		Classes: []api.Class{
			{Oid: "2.5.6.0", Names: []string{"top"}},
			{Oid: "2.5.6.6", Names: []string{"person", "human"}, Sups: []string{"top"}, Kind: api.ClStructural, Must: []string{"cn"}},
		},
	}
}

func schemaOf(t testing.TB, plain api.Schema) *schema.Schema {
	t.Helper()
	s, e, at := schema.New(plain)
	if e != api.OK {
		t.Fatalf("the schema is refused: %v at %d", e, at)
	}
	return s
}

func testSchema(t testing.TB) *schema.Schema {
	t.Helper()
	return schemaOf(t, plainSchema())
}

// made is an entry of descriptions and values, parted by |.
func made(attrs ...string) api.Entry {
	var e api.Entry
	for _, attr := range attrs {
		words := strings.Split(attr, "|")
		e.Attrs = append(e.Attrs, api.Attr{Desc: words[0], Values: words[1:]})
	}
	return e
}

func have(t int) api.Fetch { return api.Fetch{Kind: api.GetHave, Type: t} }

func equal(t int, key string) api.Fetch { return api.Fetch{Kind: api.GetEqual, Type: t, Key: key} }

func from(t int, key string) api.Fetch { return api.Fetch{Kind: api.GetFrom, Type: t, Key: key} }

func upTo(t int, key string) api.Fetch { return api.Fetch{Kind: api.GetUpTo, Type: t, Key: key} }

func part(t int, pieces ...string) api.Fetch {
	return api.Fetch{Kind: api.GetPart, Type: t, Pieces: pieces}
}

// number is a number's key.
func number(digits string) string {
	return "\x70\x00\x00" + string(rune(len(digits))) + digits
}

// shown tells a fetch, long texts by their beginnings.
func shown(q api.Fetch) string {
	return fmt.Sprintf("%d of %d, key %s, pieces %s", q.Kind, q.Type, brief(q.Key), brief(q.Pieces...))
}

func brief(texts ...string) string {
	var out []string
	for at, text := range texts {
		if at == 9 {
			return fmt.Sprintf("%v.. (%d)", out, len(texts))
		}
		out = append(out, fmt.Sprintf("%.40q", text))
	}
	return fmt.Sprint(out)
}

// plain is the entries that stand there, by their numbers, each looked at for every fetch.
type plain map[uint64]api.Entry

// coveredBy goes by the words of chapters 5 and 8: the attribute's type is t, or lies below it, whatever its options.
func coveredBy(s *schema.Schema, e api.Entry, t int) []string {
	var values []string
	for _, attr := range e.Attrs {
		if place, _, code := s.Desc(attr.Desc); code == api.OK && slices.Contains(s.Below(t), place) {
			values = append(values, attr.Values...)
		}
	}
	return values
}

// keysBy are the keys of an entry's covered values under a rule.
func keysBy(s *schema.Schema, e api.Entry, t int, rule int8) []string {
	var keys []string
	for _, value := range coveredBy(s, e, t) {
		if key, has := match.Key(s, rule, value); has {
			keys = append(keys, key)
		}
	}
	return keys
}

// canBy goes by P14.3's words.
func canBy(s *schema.Schema, q api.Fetch) bool {
	if q.Type < 0 || q.Type >= len(s.Plain().Types) {
		return false
	}
	own := s.Plain().Types[q.Type].Index
	switch q.Kind {
	case api.GetHave:
		return own&1 != 0
	case api.GetEqual:
		return own&2 != 0
	case api.GetFrom, api.GetUpTo:
		return own&4 != 0
	case api.GetPart:
		return own&8 != 0 && len(q.Pieces) >= 2 && len(gram.Asked(q.Pieces)) > 0
	}
	return false
}

// tells goes by P14.4's words: whether an entry is one of those that are asked for.
func tells(s *schema.Schema, e api.Entry, q api.Fetch) bool {
	full := s.Full(q.Type)
	some := func(rule int8, holds func(key string) bool) bool {
		return slices.ContainsFunc(keysBy(s, e, q.Type, rule), holds)
	}
	switch q.Kind {
	case api.GetHave:
		return len(coveredBy(s, e, q.Type)) > 0
	case api.GetEqual:
		return some(full.Equal, func(key string) bool { return key == q.Key })
	case api.GetFrom:
		return some(full.Order, func(key string) bool { return key >= q.Key })
	case api.GetUpTo:
		return some(full.Order, func(key string) bool { return key <= q.Key })
	}
	for _, g := range gram.Asked(q.Pieces) {
		if !some(full.Part, func(key string) bool { return slices.Contains(gram.Grams(key), g) }) {
			return false
		}
	}
	return true
}

// those are the numbers that a fetch asks for.
func (p plain) those(s *schema.Schema, q api.Fetch) []uint64 {
	var out []uint64
	for _, id := range slices.Sorted(maps.Keys(p)) {
		if tells(s, p[id], q) {
			out = append(out, id)
		}
	}
	return out
}

// both is an index and the plain entries that it is held against.
type both struct {
	t  testing.TB
	s  *schema.Schema
	it *index.Index
	plain
}

func bothOf(t testing.TB, s *schema.Schema) *both {
	return &both{t, s, index.New(s), plain{}}
}

func (b *both) put(id uint64, attrs ...string) { b.putEntry(id, made(attrs...)) }

func (b *both) putEntry(id uint64, e api.Entry) {
	b.it.Put(id, e)
	b.plain[id] = e
}

func (b *both) drop(id uint64) {
	b.it.Drop(id)
	delete(b.plain, id)
}

// check holds what the index says of fetches against the plain look.
func (b *both) check(fetches ...api.Fetch) {
	b.t.Helper()
	for _, q := range fetches {
		if !canBy(b.s, q) {
			refuses(b.t, b.it, q)
			continue
		}
		tellsOf(b.t, b.it, q, b.those(b.s, q)...)
	}
}

// refuses holds a fetch that can't be asked against what is said of it.
func refuses(t testing.TB, x *index.Index, q api.Fetch) {
	t.Helper()
	if got, e := x.Fetch(q); e != api.ErrArg || len(got) != 0 {
		t.Errorf("Fetch(%s) is %v, %v", shown(q), got, e)
	}
	if x.Can(q) || x.Count(q) != 0 {
		t.Errorf("Can(%s) is %v, Count %d", shown(q), x.Can(q), x.Count(q))
	}
}

// tellsOf holds a fetch that can be asked against the numbers that it should tell.
func tellsOf(t testing.TB, x *index.Index, q api.Fetch, want ...uint64) {
	t.Helper()
	if got, e := x.Fetch(q); e != api.OK || !slices.Equal(got, want) {
		t.Fatalf("Fetch(%s) is %v, %v; want %v", shown(q), got, e, want)
	}
	if !x.Can(q) || x.Count(q) != len(want) {
		t.Fatalf("Can(%s) is %v, Count %d; want %d", shown(q), x.Can(q), x.Count(q), len(want))
	}
}

// Descriptions and values that entries are made of by chance. Some of the descriptions are none that the schema knows; many of the values fit few types.
var (
	someDescs = []string{"objectClass", "name", "cn", "commonName;X", "2.5.4.3", "SN", "surname;y;x", "nick", "nick;x", "age", "Years", "age;x", "tally", "photo", "blob",
		"flag", "moment", "phone", "digits", "seeAlso", "bare", "still", "mixed", "MIXED;b", "zz", "cn;", "", "c n", "name;a;b;c;d;e;f;g;h;i"}
	someValues = []string{"Ann", "ann", " ANN ", "aNn  B", "Bob", "abc", "abcx", "xbcd", "bcd abc", "a", "b", "ab", "Barbara Jensen", "", " ", "é", "\xff", "\x00",
		"0", "5", "05", "-20", "100", "1000000", "12 34", "1234", "+1 (2)-34", "TRUE", "FALSE", "true", "20240229235959Z", "20240229225959.0-0100", "19991231000000,5Z",
		"person", "HUMAN", "2.5.6.6", "top", "cn", "2.5.4.3", "cn=Ann", "CN=ann", "cn=a,sn=b", "=", "nobody"}
	somePieces = []string{"", "", "a", "b", "ab", "an", "ann", "nn", "n", "bcd", "abc", "abcd", " ", "ar", "12", "23", "234", "4", "Ann", "\xff", "jensen"}
)

// dice make entries and fetches by chance.
type dice struct {
	*rand.Rand
	keys map[int8][]string // of someValues, by the rule
}

func diceOf(s *schema.Schema, seed int64) dice {
	keys := map[int8][]string{}
	for rule := range int8(api.RuleOid + 1) {
		keys[rule] = []string{"", "p", "\xff\xff"}
		for _, value := range someValues {
			if key, has := match.Key(s, rule, value); has {
				keys[rule] = append(keys[rule], key, key+"\x00")
			}
		}
	}
	return dice{rand.New(rand.NewSource(seed)), keys}
}

func oneOf[T any](d dice, of []T) T { return of[d.Intn(len(of))] }

func (d dice) entry() api.Entry {
	var e api.Entry
	for range d.Intn(6) {
		attr := api.Attr{Desc: oneOf(d, someDescs)}
		for range d.Intn(4) {
			attr.Values = append(attr.Values, oneOf(d, someValues))
		}
		e.Attrs = append(e.Attrs, attr)
	}
	return e
}

// fetch is in most cases one that can be asked.
func (d dice) fetch(s *schema.Schema) api.Fetch {
	for {
		q := api.Fetch{Kind: int8(d.Intn(5)), Type: d.Intn(types)}
		full := s.Full(q.Type)
		switch q.Kind {
		case api.GetEqual:
			q.Key = oneOf(d, d.keys[full.Equal])
		case api.GetFrom, api.GetUpTo:
			q.Key = oneOf(d, d.keys[full.Order])
		case api.GetPart:
			for range d.Intn(5) {
				q.Pieces = append(q.Pieces, oneOf(d, somePieces))
			}
		}
		if canBy(s, q) || d.Intn(8) == 0 {
			return q
		}
	}
}

// every are all fetches of the types with the keys of someValues, and some of pieces.
func (d dice) every(s *schema.Schema) []api.Fetch {
	var out []api.Fetch
	for t := range types {
		full := s.Full(t)
		out = append(out, have(t))
		for _, key := range d.keys[full.Equal] {
			out = append(out, equal(t, key))
		}
		for _, key := range d.keys[full.Order] {
			out = append(out, from(t, key), upTo(t, key))
		}
		for _, piece := range somePieces {
			out = append(out, part(t, piece, ""), part(t, "", piece), part(t, "", piece, ""), part(t, piece, oneOf(d, somePieces), oneOf(d, somePieces)))
		}
	}
	return out
}
