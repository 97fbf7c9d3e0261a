package store_test

import (
	"reflect"
	"slices"
	"testing"

	"roster/api"
	"roster/schema"
	"roster/store"
)

// exampleSchema is that of the chapter's examples.
func exampleSchema(t *testing.T) *schema.Schema {
	t.Helper()
	return schemaOf(t, api.Schema{
		Types: []api.Type{
			{Oid: "2.5.4.0", Names: []string{"objectClass"}, Syntax: api.SynOid, Equal: api.RuleOid},
			{Oid: "2.5.4.3", Names: []string{"cn"}, Equal: api.RuleFold, Index: api.IxEqual},
		},
		Classes: []api.Class{{Oid: "1.2", Names: []string{"thing"}, Kind: api.ClStructural, Must: []string{"cn"}}},
	})
}

func answers(t *testing.T, what string, e api.Errno, at int, want api.Errno, where int) {
	t.Helper()
	if e != want || at != where {
		t.Errorf("%s: %v, %d; want %v, %d", what, e, at, want, where)
	}
}

func finds(t *testing.T, it *store.Store, q api.Fetch, want ...uint64) {
	t.Helper()
	if l, e := it.Fetch(q); e != api.OK || !slices.Equal(l, want) || it.Count(q) != len(want) || !it.Can(q) {
		t.Errorf("%v: %v, %v, %d; want %v", q, l, e, it.Count(q), want)
	}
}

// isAt holds the record of a number against what it should be.
func isAt(t *testing.T, it *store.Store, id uint64, n string, attrs ...string) {
	t.Helper()
	want := api.Record{Id: id, Name: called(n), Entry: made(attrs...)}
	if r, e := it.Get(id); e != api.OK || shown(r) != shown(want) {
		t.Errorf("Get(%d): %s, %v; want %s", id, shown(r), e, shown(want))
	}
}

// The chapter's examples, one behind the other.
func TestExamples(t *testing.T) {
	const cn = 1
	it := store.New(exampleSchema(t))
	e, at := it.Add(7, called("cn=a"), made("objectClass|thing", "cn| A "))
	answers(t, "Add", e, at, api.OK, 0)
	isAt(t, it, 7, "cn=a", "cn| A ", "objectClass|thing")
	finds(t, it, equal(cn, "a"), 7)

	e, at = it.Add(7, called("cn=a"), made("objectClass|thing", "cn| A "))
	answers(t, "Add again", e, at, api.ErrThere, 0)
	e, at = it.Add(8, called("zz=a"), made("objectClass|thing", "cn| A "))
	answers(t, "Add of zz=a", e, at, api.ErrType, 0)
	e, at = it.Add(8, called("cn=a"), made("cn| A "))
	answers(t, "Add of cn alone", e, at, api.ErrClass, 0)

	e, at = it.Modify(7, []api.Mod{mod(api.ModReplace, "cn|b")})
	answers(t, "Modify", e, at, api.OK, 0)
	finds(t, it, equal(cn, "a"))
	finds(t, it, equal(cn, "b"), 7)

	e, at = it.Modify(7, []api.Mod{mod(api.ModDelete, "cn")})
	answers(t, "Modify without cn", e, at, api.ErrMust, 1)
	isAt(t, it, 7, "cn=a", "cn|b", "objectClass|thing")

	answers(t, "Rename(7)", it.Rename(7, called("cn=b")), 0, api.OK, 0)
	isAt(t, it, 7, "cn=b", "cn|b", "objectClass|thing")
	answers(t, "Rename(9)", it.Rename(9, called("cn=b")), 0, api.ErrNone, 0)
	answers(t, "Delete(9)", it.Delete(9), 0, api.ErrNone, 0)
	r, e := it.Get(9)
	answers(t, "Get(9)", e, len(r.Entry.Attrs)+len(r.Name.Rdns), api.ErrNone, 0)

	for _, q := range []api.Fetch{have(cn), from(cn, "a"), upTo(cn, "a"), part(cn, "abc", ""), equal(0, "1.2")} {
		l, e := it.Fetch(q)
		answers(t, "Fetch of a kind that is not there", e, len(l), api.ErrArg, 0)
	}
	if store.New(nil) != nil {
		t.Error("a store of no schema")
	}
}

// P15.1: a new store has no records; its schema is the one that was handed in.
func TestNew(t *testing.T) {
	s, other := testSchema(t), testSchema(t)
	it := store.New(s)
	if it.Schema() != s || it.Schema() == other || store.New(other).Schema() != other || it.Clone().Schema() != s {
		t.Error("another schema")
	}
	if it.Len() != 0 || len(it.Ids()) != 0 {
		t.Errorf("%d, %v", it.Len(), it.Ids())
	}
	for _, id := range someIds {
		r, e := it.Get(id)
		if e != api.ErrNone || shown(r) != shown(api.Record{}) {
			t.Errorf("Get(%d): %s, %v", id, shown(r), e)
		}
	}
	finds(t, it, have(tName))
	finds(t, it, equal(tCn, "ann"))
	finds(t, it, from(tAge, ""))
	// Two stores of one schema have nothing in common.
	if e, _ := store.New(s).Add(1, called("cn=a"), made("objectClass|thing", "cn|a")); e != api.OK || it.Len() != 0 {
		t.Errorf("%v, %d", e, it.Len())
	}
	if it.Schema() != s || !reflect.DeepEqual(s.Plain(), plainSchema()) {
		t.Error("the schema is another one")
	}
}

// R1: every call of a Store that isn't there.
func TestNilStore(t *testing.T) {
	var it *store.Store
	good := made("objectClass|thing", "cn|a")
	for _, id := range []uint64{0, 7, greatest} {
		for _, n := range someNames {
			for _, entry := range []api.Entry{good, {}, made("zz|a")} {
				e, at := it.Add(id, n, entry)
				answers(t, "Add", e, at, api.ErrNil, 0)
			}
			answers(t, "Rename", it.Rename(id, n), 0, api.ErrNil, 0)
		}
		for _, mods := range [][]api.Mod{nil, {mod(api.ModAdd, "cn|a")}, {mod(9, "")}, make([]api.Mod, api.MaxMods+1)} {
			e, at := it.Modify(id, mods)
			answers(t, "Modify", e, at, api.ErrNil, 0)
		}
		answers(t, "Delete", it.Delete(id), 0, api.ErrNil, 0)
		if r, e := it.Get(id); e != api.ErrNil || shown(r) != shown(api.Record{}) {
			t.Errorf("Get: %s, %v", shown(r), e)
		}
	}
	for _, q := range diceOf(testSchema(t), 1).every(testSchema(t)) {
		if l, e := it.Fetch(q); e != api.ErrNil || len(l) > 0 || it.Can(q) || it.Count(q) != 0 {
			t.Errorf("Fetch(%v): %v, %v", q, l, e)
		}
	}
	if it.Schema() != nil || len(it.Ids()) != 0 || it.Len() != 0 || it.Clone() != nil {
		t.Error("there is something of a store that isn't there")
	}
}

// Nobody can tell the indexes anything past the records: the face has the chapter's calls alone.
func TestFace(t *testing.T) {
	want := []string{"Add", "Can", "Clone", "Count", "Delete", "Fetch", "Get", "Ids", "Len", "Modify", "Rename", "Schema"}
	var got []string
	for m := range reflect.TypeFor[*store.Store]().Methods() {
		got = append(got, m.Name)
	}
	if !slices.Equal(got, want) || reflect.TypeFor[store.Store]().NumMethod() != 0 {
		t.Errorf("%v; want %v", got, want)
	}
	for f := range reflect.TypeFor[store.Store]().Fields() {
		if f.IsExported() {
			t.Errorf("%s is everybody's", f.Name)
		}
	}
}
