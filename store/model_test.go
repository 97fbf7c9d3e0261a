package store_test

import (
	"fmt"
	"math/rand"
	"slices"
	"strings"
	"testing"

	"roster/api"
	"roster/entry"
	"roster/index"
	"roster/match"
	"roster/name"
	"roster/schema"
	"roster/store"
)

const greatest = 1<<64 - 1

// The places of plainSchema's types.
const (
	tClass = iota
	tName
	tCn
	tSn
	tAge
	tYears
	tPhoto
	tSeeAlso
	tStill
	types
)

const all = api.IxHave | api.IxEqual | api.IxOrder | api.IxPart

// plainSchema has types with all bits, some, none; sn has other rules than name, below which it lies; photo has no rules.
func plainSchema() api.Schema {
	return api.Schema{
		Types: []api.Type{
			tClass:   {Oid: "2.5.4.0", Names: []string{"objectClass"}, Syntax: api.SynOid, Equal: api.RuleOid, Index: api.IxHave | api.IxEqual},
			tName:    {Oid: "2.5.4.41", Names: []string{"name"}, Equal: api.RuleFold, Order: api.RuleFoldOrder, Part: api.RuleFoldPart, Index: all},
			tCn:      {Oid: "2.5.4.3", Names: []string{"cn", "commonName"}, Sup: "name", Index: api.IxEqual | api.IxPart},
			tSn:      {Oid: "2.5.4.4", Names: []string{"sn", "surname"}, Sup: "name", Equal: api.RuleExact, Order: api.RuleExactOrder, Part: api.RuleExactPart, Index: all},
			tAge:     {Oid: "1.1", Names: []string{"age"}, Syntax: api.SynNumber, Equal: api.RuleNumber, Order: api.RuleNumberOrder, Index: api.IxHave | api.IxEqual | api.IxOrder},
			tYears:   {Oid: "1.2", Names: []string{"years"}, Sup: "age", Syntax: api.SynNumber, Single: true, Index: api.IxOrder},
			tPhoto:   {Oid: "1.3", Names: []string{"photo"}, Syntax: api.SynBytes},
			tSeeAlso: {Oid: "1.4", Names: []string{"seeAlso"}, Syntax: api.SynName, Equal: api.RuleName, Index: api.IxEqual},
			tStill:   {Oid: "1.5", Names: []string{"still"}, Equal: api.RuleFold, Order: api.RuleFoldOrder, Part: api.RuleFoldPart},
		},
		Classes: []api.Class{
			{Oid: "2.5.6.0", Names: []string{"top"}},
			{Oid: "2.5.6.6", Names: []string{"person", "human"}, Sups: []string{"top"}, Kind: api.ClStructural, Must: []string{"cn"}, May: []string{"name", "sn", "age", "years", "photo", "seeAlso"}},
			{Oid: "1.6", Names: []string{"thing"}, Kind: api.ClStructural, Must: []string{"cn"}, May: []string{"age"}},
			{Oid: "1.7", Names: []string{"extra"}, Kind: api.ClAuxiliary, May: []string{"still", "photo"}},
		},
	}
}

func schemaOf(t testing.TB, plain api.Schema) *schema.Schema {
	t.Helper()
	s, e, at := schema.New(plain)
	if e != api.OK {
		t.Fatalf("the schema is refused: %v at %d", e, at)
	}
	return s
}

func testSchema(t testing.TB) *schema.Schema {
	t.Helper()
	return schemaOf(t, plainSchema())
}

// made is an entry of descriptions and values, parted by |.
func made(attrs ...string) api.Entry {
	var e api.Entry
	for _, attr := range attrs {
		words := strings.Split(attr, "|")
		e.Attrs = append(e.Attrs, api.Attr{Desc: words[0], Values: words[1:]})
	}
	return e
}

// mod is a change: an Op, and an attribute as made has it.
func mod(op int8, attr string) api.Mod {
	return api.Mod{Op: op, Attr: made(attr).Attrs[0]}
}

// called is the name of a text.
func called(text string) api.Name {
	n, err := name.Parse(text)
	if err != nil {
		panic(err)
	}
	return n
}

// partsOf is a name of many parts.
func partsOf(many int) api.Name {
	return called(strings.TrimSuffix(strings.Repeat("cn=a,", many), ","))
}

func have(t int) api.Fetch { return api.Fetch{Kind: api.GetHave, Type: t} }

func equal(t int, key string) api.Fetch { return api.Fetch{Kind: api.GetEqual, Type: t, Key: key} }

func from(t int, key string) api.Fetch { return api.Fetch{Kind: api.GetFrom, Type: t, Key: key} }

func upTo(t int, key string) api.Fetch { return api.Fetch{Kind: api.GetUpTo, Type: t, Key: key} }

func part(t int, pieces ...string) api.Fetch {
	return api.Fetch{Kind: api.GetPart, Type: t, Pieces: pieces}
}

// shown tells a record whole; lists that are nil as empty ones.
func shown(r api.Record) string { return fmt.Sprintf("%d %q %q", r.Id, r.Name, r.Entry) }

func shownAll(records []api.Record) string {
	var out []string
	for _, r := range records {
		out = append(out, shown(r))
	}
	return strings.Join(out, "; ")
}

// told is what a store says of a fetch.
func told(it *store.Store, q api.Fetch) string {
	l, e := it.Fetch(q)
	return fmt.Sprint(it.Can(q), l, e, it.Count(q))
}

// plain is a store that keeps a list of records, in the order in which they came.
type plain struct {
	s    *schema.Schema
	list []api.Record
}

func (p *plain) place(id uint64) int {
	return slices.IndexFunc(p.list, func(r api.Record) bool { return r.Id == id })
}

func (p *plain) add(id uint64, n api.Name, e api.Entry) (api.Errno, int) {
	if p.place(id) >= 0 {
		return api.ErrThere, 0
	}
	if len(p.list) == api.MaxEntries {
		return api.ErrFull, 0
	}
	if _, wrong := name.Key(p.s, n); wrong != api.OK {
		return wrong, 0
	}
	if wrong, at := entry.Check(p.s, e); wrong != api.OK {
		return wrong, at
	}
	tidy, _, _ := entry.Tidy(p.s, e)
	p.list = append(p.list, api.Record{Id: id, Name: name.Under(api.Rdn{}, n), Entry: tidy})
	last := &p.list[len(p.list)-1].Name
	*last, _ = name.Above(*last)
	return api.OK, 0
}

func (p *plain) delete(id uint64) api.Errno {
	at := p.place(id)
	if at < 0 {
		return api.ErrNone
	}
	p.list = slices.Delete(p.list, at, at+1)
	return api.OK
}

func (p *plain) modify(id uint64, mods []api.Mod) (api.Errno, int) {
	at := p.place(id)
	if at < 0 {
		return api.ErrNone, 0
	}
	e, wrong, where := entry.Apply(p.s, p.list[at].Entry, mods)
	if wrong == api.OK {
		p.list[at].Entry = e
	}
	return wrong, where
}

func (p *plain) rename(id uint64, n api.Name) api.Errno {
	at := p.place(id)
	if at < 0 {
		return api.ErrNone
	}
	_, wrong := name.Key(p.s, n)
	if wrong == api.OK {
		p.list[at].Name, _ = name.Above(name.Under(api.Rdn{}, n))
	}
	return wrong
}

func (p *plain) clone() *plain { return &plain{p.s, slices.Clone(p.list)} }

// both is a store and the plain one that it is held against.
type both struct {
	t  testing.TB
	it *store.Store
	*plain
}

func bothOf(t testing.TB, s *schema.Schema) *both {
	return &both{t, store.New(s), &plain{s: s}}
}

func (b *both) twin() *both { return &both{b.t, b.it.Clone(), b.plain.clone()} }

func (b *both) isAs(what string, e api.Errno, at int, want api.Errno, where int) api.Errno {
	b.t.Helper()
	if e != want || at != where {
		b.t.Fatalf("%s: %v, %d; want %v, %d", what, e, at, want, where)
	}
	return e
}

func (b *both) add(id uint64, n api.Name, e api.Entry) api.Errno {
	b.t.Helper()
	wrong, at := b.it.Add(id, n, e)
	want, where := b.plain.add(id, n, e)
	return b.isAs(fmt.Sprintf("Add(%d, %.200q, %.200q)", id, n, e), wrong, at, want, where)
}

func (b *both) delete(id uint64) api.Errno {
	b.t.Helper()
	return b.isAs(fmt.Sprintf("Delete(%d)", id), b.it.Delete(id), 0, b.plain.delete(id), 0)
}

func (b *both) modify(id uint64, mods ...api.Mod) api.Errno {
	b.t.Helper()
	wrong, at := b.it.Modify(id, mods)
	want, where := b.plain.modify(id, mods)
	return b.isAs(fmt.Sprintf("Modify(%d, %v)", id, mods), wrong, at, want, where)
}

func (b *both) rename(id uint64, n api.Name) api.Errno {
	b.t.Helper()
	return b.isAs(fmt.Sprintf("Rename(%d, %.200q)", id, n), b.it.Rename(id, n), 0, b.plain.rename(id, n), 0)
}

// records holds Get, Ids and Len against the list: of all that are there, and of some numbers that may not be.
func (b *both) records() {
	b.t.Helper()
	var ids []uint64
	for _, want := range b.list {
		ids = append(ids, want.Id)
		if r, e := b.it.Get(want.Id); e != api.OK || shown(r) != shown(want) {
			b.t.Fatalf("Get(%d): %s, %v; want %s", want.Id, shown(r), e, shown(want))
		}
	}
	slices.Sort(ids)
	if got := b.it.Ids(); !slices.Equal(got, ids) || b.it.Len() != len(ids) {
		b.t.Fatalf("Ids: %v, Len %d; want %v", got, b.it.Len(), ids)
	}
	for _, id := range someIds {
		if r, e := b.it.Get(id); b.place(id) < 0 && (e != api.ErrNone || shown(r) != shown(api.Record{})) {
			b.t.Fatalf("Get(%d): %s, %v", id, shown(r), e)
		}
	}
}

// fetches holds Can, Fetch and Count against what layer 14 tells of the entries, and against a store made anew of the records in another order.
func (b *both) fetches(order []int, qs ...api.Fetch) {
	b.t.Helper()
	x, anew := index.New(b.s), store.New(b.s)
	for _, at := range order {
		r := b.list[at]
		x.Put(r.Id, r.Entry)
		if e, where := anew.Add(r.Id, r.Name, r.Entry); e != api.OK {
			b.t.Fatalf("%s can't be added anew: %v, %d", shown(r), e, where)
		}
	}
	for _, q := range qs {
		l, e := x.Fetch(q)
		got, want := told(b.it, q), fmt.Sprint(x.Can(q), l, e, x.Count(q))
		if got != want || got != told(anew, q) {
			b.t.Fatalf("%v: %s; want %s; anew %s", q, got, want, told(anew, q))
		}
	}
}

// check holds everything against the list.
func (b *both) check(d dice, qs ...api.Fetch) {
	b.t.Helper()
	b.records()
	b.fetches(d.Perm(len(b.list)), qs...)
}

// What records are made of by chance: some of the names, descriptions and values are wrong.
var (
	someIds   = []uint64{0, 1, 2, 3, 5, 8, 13, 1 << 32, 1 << 63, greatest - 1, greatest}
	someNames = []api.Name{{}, called("cn=a"), called("CN=A"), called("2.5.4.3=a"), called("cn=a,sn=b"), called("sn=b+cn=a,cn=c"), called("age=5,cn=q"), called("photo="), called("seeAlso=cn\\=a"),
		called("zz=a"), called("cn=a+CN=b"), called("cn="), called("cn=a,age=x"), {Rdns: []api.Rdn{{}}}, {Rdns: []api.Rdn{{Avas: []api.Ava{{Type: "c n", Value: "a"}}}}},
		partsOf(api.MaxRdns), {Rdns: append(partsOf(api.MaxRdns).Rdns, called("cn=a").Rdns...)}}
	someDescs  = []string{"name", "cn", "commonName;X", "2.5.4.3", "SN", "surname;y;x", "age", "Years", "years;x", "age;x", "photo", "seeAlso", "still", "zz", "cn;", "", "objectClass;x"}
	someAttrs  = []string{"name|Ann|abc", "cn;x|Bob", "CN|abcx", "sn|Ann|ann", "sn;x| ANN ", "age|5", "age|-20|100", "years|0", "years;x|100", "years|0|5", "age;x|5", "photo|Ann", "seeAlso|cn=Ann|cn=a,sn=b", "still|ann"}
	someValues = []string{"Ann", "ann", " ANN ", "aNn  B", "Bob", "abc", "abcx", "bcd abc", "a", "b", "", "é", "\xff", "0", "5", "-20", "100", "cn=Ann", "CN=ann", "cn=a,sn=b", "="}
	somePieces = []string{"", "", "a", "b", "ab", "an", "ann", "nn", "n", "bcd", "abc", "Ann", "\xff"}
	someKinds  = [][]string{{"person"}, {"person"}, {"HUMAN", "top"}, {"2.5.6.6", "extra"}, {"thing"}, {"thing", "extra"}, {"person", "thing"}, {"nobody"}, {"extra"}, {"top"}}
)

// dice make what is asked of a store by chance.
type dice struct {
	*rand.Rand
	keys map[int8][]string // of someValues, by the rule
}

func diceOf(s *schema.Schema, seed int64) dice {
	keys := map[int8][]string{}
	for rule := range int8(api.RuleOid + 1) {
		keys[rule] = []string{"", "\xff\xff"}
		for _, value := range append(someValues, "person", "thing", "top", "nobody") {
			if key, has := match.Key(s, rule, value); has {
				keys[rule] = append(keys[rule], key)
			}
		}
	}
	return dice{rand.New(rand.NewSource(seed)), keys}
}

func oneOf[T any](d dice, of []T) T { return of[d.Intn(len(of))] }

// attr is in most cases one whose values fit.
func (d dice) attr() api.Attr {
	if d.Intn(3) > 0 {
		return made(oneOf(d, someAttrs)).Attrs[0]
	}
	attr := api.Attr{Desc: oneOf(d, someDescs)}
	many := 1
	if d.Intn(3) == 0 {
		many = d.Intn(4)
	}
	for range many {
		attr.Values = append(attr.Values, oneOf(d, someValues))
	}
	return attr
}

// entry is in about half of the cases one that may be.
func (d dice) entry() api.Entry {
	e := api.Entry{Attrs: []api.Attr{{Desc: "objectClass", Values: oneOf(d, someKinds[:6])}, {Desc: "commonName", Values: []string{oneOf(d, someValues[:10])}}}}
	if d.Intn(8) == 0 {
		e.Attrs[0].Values = oneOf(d, someKinds)
	}
	for range d.Intn(3) {
		e.Attrs = append(e.Attrs, d.attr())
	}
	d.Shuffle(len(e.Attrs), func(i, j int) { e.Attrs[i], e.Attrs[j] = e.Attrs[j], e.Attrs[i] })
	if d.Intn(15) == 0 {
		e.Attrs = e.Attrs[1:]
	}
	return e
}

func (d dice) name() api.Name {
	if d.Intn(4) > 0 {
		return oneOf(d, someNames[:9])
	}
	return oneOf(d, someNames)
}

func (d dice) mods() []api.Mod {
	var mods []api.Mod
	for range d.Intn(4) {
		one := api.Mod{Op: int8(d.Intn(4)), Attr: d.attr()}
		switch d.Intn(12) {
		case 0:
			one.Op = int8(d.Intn(256) - 128)
		case 1:
			one.Attr.Values = nil
		case 2:
			one.Attr = api.Attr{Desc: "objectClass", Values: oneOf(d, someKinds)}
		}
		mods = append(mods, one)
	}
	return mods
}

// every are fetches of all kinds and types, with the keys of someValues and some pieces.
func (d dice) every(s *schema.Schema) []api.Fetch {
	out := []api.Fetch{{Kind: 5, Type: tName}, {Kind: -1, Type: tName}, have(-1), have(types), equal(types, "ann"), part(tName), part(tName, "ann")}
	for t := range types {
		full := s.Full(t)
		out = append(out, have(t))
		for _, key := range d.keys[full.Equal] {
			out = append(out, equal(t, key))
		}
		for _, key := range d.keys[full.Order] {
			out = append(out, from(t, key), upTo(t, key))
		}
		for _, piece := range somePieces {
			out = append(out, part(t, piece, ""), part(t, "", piece), part(t, "", piece, ""), part(t, piece, oneOf(d, somePieces), oneOf(d, somePieces)))
		}
	}
	return out
}
