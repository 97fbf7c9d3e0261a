package store_test

import (
	"slices"
	"strconv"
	"testing"

	"roster/api"
	"roster/store"
)

// P15.2: a store with MaxEntries records, one less, and one of them deleted; its clone is as full.
func TestFull(t *testing.T) {
	it := store.New(exampleSchema(t))
	n, thing := called("cn=a"), made("objectClass|thing", "cn|a")
	add := func(id uint64, n api.Name, entry api.Entry, want api.Errno) {
		t.Helper()
		e, at := it.Add(id, n, entry)
		answers(t, "Add", e, at, want, 0)
	}
	for id := range uint64(api.MaxEntries - 1) {
		if e, at := it.Add(id*3, n, made("objectClass|thing", "cn|"+strconv.Itoa(int(id%100)))); e != api.OK {
			t.Fatal(id, e, at)
		}
	}
	zero := it.Count(equal(1, "0"))
	// One less: what is wrong is told as ever, and there is room for one.
	add(1, called("zz=a"), thing, api.ErrType)
	add(1, n, made("cn|a"), api.ErrClass)
	add(0, n, thing, api.ErrThere)
	add(1, n, thing, api.OK)
	if it.Len() != api.MaxEntries {
		t.Fatalf("there are %d", it.Len())
	}
	for range 2 { // it and its clone
		add(2, n, thing, api.ErrFull)
		add(2, called("zz=a"), api.Entry{}, api.ErrFull)
		add(1, n, thing, api.ErrThere)
		add(0, called("zz=a"), api.Entry{}, api.ErrThere)
		if ids := it.Ids(); len(ids) != api.MaxEntries || !slices.IsSorted(ids) || ids[1] != 1 || it.Len() != api.MaxEntries {
			t.Fatalf("%d, %d", len(ids), it.Len())
		}
		finds(t, it, equal(1, "a"), 1)
		// What is there may be changed, and makes room where it goes.
		e, at := it.Modify(1, []api.Mod{mod(api.ModReplace, "cn|b")})
		answers(t, "Modify", e, at, api.OK, 0)
		answers(t, "Rename", it.Rename(1, called("cn=b")), 0, api.OK, 0)
		answers(t, "Delete", it.Delete(2), 0, api.ErrNone, 0)
		add(2, n, thing, api.ErrFull)
		answers(t, "Delete", it.Delete(0), 0, api.OK, 0)
		if it.Len() != api.MaxEntries-1 || it.Count(equal(1, "0")) != zero-1 {
			t.Errorf("%d, %d", it.Len(), it.Count(equal(1, "0")))
		}
		add(2, n, made("cn|a"), api.ErrClass)
		add(2, n, thing, api.OK)
		add(0, n, thing, api.ErrFull)
		finds(t, it, equal(1, "a"), 2)
		finds(t, it, equal(1, "b"), 1)
		// As it was, for the clone.
		it.Delete(2)
		add(0, n, made("objectClass|thing", "cn|0"), api.OK)
		it.Modify(1, []api.Mod{mod(api.ModReplace, "cn|a")})
		it = it.Clone()
	}
}
