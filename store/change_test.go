package store_test

import (
	"strings"
	"testing"

	"roster/api"
	"roster/store"
)

// P15.2: any number, the least and the greatest too; they come in any order, and are told rising.
func TestAnyNumber(t *testing.T) {
	b := bothOf(t, testSchema(t))
	d := diceOf(b.s, 1)
	for _, id := range []uint64{greatest, 0, 5, 1 << 63, 1, greatest - 1} {
		if b.add(id, called("cn=a"), made("objectClass|thing", "cn|a")) != api.OK {
			t.Errorf("%d is refused", id)
		}
		b.check(d, equal(tCn, "a"), have(tName))
	}
	finds(t, b.it, equal(tCn, "a"), 0, 1, 5, 1<<63, greatest-1, greatest)
	for _, id := range []uint64{0, greatest} {
		for _, e := range []api.Errno{b.add(id, called("cn=a"), made("objectClass|thing", "cn|a")) - api.ErrThere, b.modify(id, mod(api.ModAdd, "cn|z")), b.rename(id, called("cn=z")), b.delete(id), b.delete(id) - api.ErrNone} {
			if e != api.OK {
				t.Errorf("%d: %v", id, e)
			}
		}
		b.check(d, equal(tCn, "a"), equal(tCn, "z"), have(tName))
	}
}

// P15.2: names are not the store's business: two records may have one, also one of no parts, and one whose value the entry has not.
func TestTwoRecordsOfOneName(t *testing.T) {
	b := bothOf(t, testSchema(t))
	for id, n := range []string{"cn=a", "cn=a", "CN=A", "2.5.4.3=a", "", "", "sn=x,cn=nobody", "cn=q+sn=r"} {
		if b.add(uint64(id), called(n), made("objectClass|thing", "cn|b")) != api.OK {
			t.Errorf("%s is refused", n)
		}
		isAt(t, b.it, uint64(id), n, "cn|b", "objectClass|thing") // as it was written
	}
	b.check(diceOf(b.s, 1), equal(tCn, "b"), equal(tCn, "a"))
	finds(t, b.it, equal(tCn, "a")) // of a name the indexes know nothing
}

// P15.2: which error of Add comes first, and the number beside it.
func TestWhichErrorOfAdd(t *testing.T) {
	b := bothOf(t, testSchema(t))
	good := made("objectClass|thing", "cn|a")
	b.add(7, called("cn=a"), good)
	long := strings.Repeat("a", api.MaxText+1)
	for _, c := range []struct {
		id   uint64
		n    api.Name
		e    api.Entry
		want api.Errno
		at   int
	}{
		// The number is there: whatever else is wrong.
		{7, called("cn=b"), good, api.ErrThere, 0},
		{7, called("zz=a"), good, api.ErrThere, 0},
		{7, called("cn=b"), made("objectClass|thing", "cn|b", "zz|a"), api.ErrThere, 0},
		{7, called("zz=a"), made("objectClass|thing", "cn|b", "zz|a"), api.ErrThere, 0},
		// A wrong name, whatever the entry is: its errors have no place.
		{8, called("zz=a"), good, api.ErrType, 0},
		{8, called("zz=a"), made("objectClass|thing", "cn|b", "age|x"), api.ErrType, 0},
		{8, called("cn=a,cn="), made("objectClass|thing", "cn|b", "zz|a"), api.ErrValue, 0},
		{8, called("cn=a+commonName=b"), made("objectClass|thing", "cn|b", "zz|a"), api.ErrTwice, 0},
		{8, api.Name{Rdns: []api.Rdn{{}}}, api.Entry{}, api.ErrName, 0},
		{8, called("c-n=a"), api.Entry{}, api.ErrType, 0},
		{8, api.Name{Rdns: []api.Rdn{{Avas: []api.Ava{{Type: "", Value: "a"}}}}}, good, api.ErrName, 0},
		{8, api.Name{Rdns: make([]api.Rdn, api.MaxRdns+1)}, api.Entry{}, api.ErrLong, 0},
		{8, api.Name{Rdns: []api.Rdn{{Avas: []api.Ava{{Type: "cn", Value: long}}}}}, api.Entry{}, api.ErrLong, 0},
		// A wrong entry: its place, in the entry as it was handed in where Tidy refuses it, else in the tidy one.
		{8, called("cn=b"), api.Entry{}, api.ErrClass, 0},
		{8, called("cn=b"), made("cn|a"), api.ErrClass, 0},
		{8, called("cn=b"), made("cn|a", "objectClass|nobody"), api.ErrClass, 0},
		{8, called("cn=b"), made("objectClass|thing"), api.ErrMust, 0},
		{8, called("cn=b"), made("objectClass|thing", "cn|b", "zz|a"), api.ErrType, 2},
		{8, called("cn=b"), made("objectClass|thing", "c n|b"), api.ErrName, 1},
		{8, called("cn=b"), made("objectClass|thing", "cn|b", "age"), api.ErrLack, 2},
		{8, called("cn=b"), made("objectClass|thing", "age|5", "cn|b", "age|x"), api.ErrValue, 3},
		{8, called("cn=b"), made("objectClass|thing", "cn|b|B"), api.ErrHave, 1},
		{8, called("cn=b"), made("objectClass|thing", "cn|"+long), api.ErrLong, 1},
		{8, called("cn=b"), api.Entry{Attrs: make([]api.Attr, api.MaxAttrs+1)}, api.ErrLong, 0},
		{8, called("cn=b"), made("sn|x", "objectClass|thing", "cn|b"), api.ErrMay, 2},
		{8, called("cn=b"), made("years;x|1", "objectClass|person", "cn|b", "years|2", "sn|x"), api.ErrMany, 3},
	} {
		if e, at := b.it.Add(c.id, c.n, c.e); e != c.want || at != c.at {
			t.Errorf("Add(%d, %.60q, %.60q): %v, %d; want %v, %d", c.id, c.n, c.e, e, at, c.want, c.at)
		}
		b.add(c.id, c.n, c.e)
		b.check(diceOf(b.s, 1), equal(tCn, "a"), equal(tCn, "b"), have(tName), have(tClass))
	}
	if b.it.Len() != 1 {
		t.Errorf("there are %d", b.it.Len())
	}
}

// P15.2, P15.3: of an entry that is not tidy Get tells the tidy one.
func TestWhatIsToldIsTidy(t *testing.T) {
	it := store.New(testSchema(t))
	e, at := it.Add(3, called("CN=b"), made("SURNAME;Y;x;X|z|Z", "COMMONNAME|b  B| A ", "objectclass|2.5.6.6|TOP", "2.5.4.3|c", "age|9|10|-1"))
	answers(t, "Add", e, at, api.OK, 0)
	isAt(t, it, 3, "CN=b", "age|-1|9|10", "cn| A |b  B|c", "objectClass|TOP|2.5.6.6", "sn;x;y|Z|z")
	for _, key := range []string{"a", "b b", "c"} {
		finds(t, it, equal(tCn, key), 3)
	}
	e, at = it.Modify(3, []api.Mod{mod(api.ModAdd, "NAME;B;a|x"), mod(api.ModDelete, "CommonName|C"), mod(api.ModMore, "AGE|1")})
	answers(t, "Modify", e, at, api.OK, 0)
	isAt(t, it, 3, "CN=b", "age|0|10|11", "cn| A |b  B", "name;a;b|x", "objectClass|TOP|2.5.6.6", "sn;x;y|Z|z")
}

// P15.2: Modify makes all of the changes, or none of them.
func TestModify(t *testing.T) {
	b := bothOf(t, testSchema(t))
	d := diceOf(b.s, 1)
	every := d.every(b.s)
	b.add(7, called("cn=a"), made("objectClass|person", "cn|Ann", "age|5"))
	b.add(8, called("cn=a"), made("objectClass|person", "cn|Ann", "sn|Two"))
	add, drop, replace := int8(api.ModAdd), int8(api.ModDelete), int8(api.ModReplace)
	for _, c := range []struct {
		id   uint64
		mods []api.Mod
		want api.Errno
		at   int
	}{
		{7, nil, api.OK, 0},
		{7, []api.Mod{}, api.OK, 0},
		{9, nil, api.ErrNone, 0},
		{9, []api.Mod{mod(add, "cn|b"), mod(9, "")}, api.ErrNone, 0},
		{9, make([]api.Mod, api.MaxMods+1), api.ErrNone, 0},
		{7, make([]api.Mod, api.MaxMods+1), api.ErrLong, 0},
		// The last one is refused: what those ahead of it did is not there.
		{7, []api.Mod{mod(add, "cn|b"), mod(drop, "age"), mod(add, "sn|x"), mod(9, "cn|b")}, api.ErrMod, 3},
		{7, []api.Mod{mod(replace, "cn|b"), mod(add, "zz|b")}, api.ErrType, 1},
		{7, []api.Mod{mod(replace, "cn|b"), mod(add, "cn|B")}, api.ErrHave, 1},
		{7, []api.Mod{mod(drop, "age|05")}, api.ErrLack, 0},
		{7, []api.Mod{mod(drop, "age|5"), mod(add, "cn|b"), mod(drop, "age")}, api.ErrLack, 2},
		{7, []api.Mod{mod(add, "age|6"), mod(add, "age|x")}, api.ErrValue, 1},
		// What there is behind the last one may not be: the place is behind it.
		{7, []api.Mod{mod(drop, "cn")}, api.ErrMust, 1},
		{7, []api.Mod{mod(add, "sn|b"), mod(replace, "objectClass|thing")}, api.ErrMay, 2},
		{7, []api.Mod{mod(drop, "objectClass")}, api.ErrClass, 1},
		{7, []api.Mod{mod(add, "years|1|2")}, api.ErrMany, 1},
		// It stays as it was.
		{7, []api.Mod{mod(add, "sn|b"), mod(drop, "sn|b")}, api.OK, 0},
		{7, []api.Mod{mod(replace, "cn|Ann")}, api.OK, 0},
		{7, []api.Mod{mod(drop, "cn|ANN"), mod(add, "cn|Ann")}, api.OK, 0},
		{7, []api.Mod{mod(replace, "seeAlso")}, api.OK, 0},
		{7, []api.Mod{mod(api.ModMore, "age|0")}, api.OK, 0},
	} {
		before, _ := b.it.Get(7)
		if e, at := b.it.Modify(c.id, c.mods); e != c.want || at != c.at {
			t.Errorf("Modify(%d, %v): %v, %d; want %v, %d", c.id, c.mods, e, at, c.want, c.at)
		}
		if after, _ := b.it.Get(7); shown(after) != shown(before) {
			t.Errorf("%v: %s became %s", c.mods, shown(before), shown(after))
		}
		b.check(d, every...)
	}
	// And it becomes another one: by its bytes alone, by a value, by all.
	for _, mods := range [][]api.Mod{
		{mod(replace, "cn|ANN")}, {mod(add, "cn|Bob")}, {mod(drop, "cn|ann")}, {mod(api.ModMore, "age|95")}, {mod(drop, "age")},
		{mod(replace, "objectClass|thing|extra"), mod(replace, "cn|abc"), mod(add, "photo|x")}, {mod(replace, "photo"), mod(add, "age|1"), mod(add, "age;x|1")},
	} {
		before, _ := b.it.Get(7)
		if e := b.modify(7, mods...); e != api.OK {
			t.Errorf("%v: %v", mods, e)
		}
		if after, _ := b.it.Get(7); shown(after) == shown(before) {
			t.Errorf("%v: it is still %s", mods, shown(before))
		}
		b.check(d, every...)
	}
	finds(t, b.it, equal(tCn, "ann"), 8)
	finds(t, b.it, equal(tCn, "abc"), 7)
}

// P15.2: Rename changes the name and nothing else.
func TestRename(t *testing.T) {
	b := bothOf(t, testSchema(t))
	d := diceOf(b.s, 1)
	every := d.every(b.s)
	b.add(7, called("cn=a,sn=b"), made("objectClass|person", "cn|Ann"))
	b.add(8, called("cn=z"), made("objectClass|person", "cn|Ann|Bob"))
	for _, c := range []struct {
		id   uint64
		n    api.Name
		want api.Errno
	}{
		{7, called("cn=a,sn=b"), api.OK}, // the one that it has
		{7, called("CN=A,surname=b"), api.OK},
		{7, called("cn=z"), api.OK}, // another record's
		{8, called("cn=z"), api.OK},
		{7, api.Name{}, api.OK},
		{7, called("cn=q+sn=r,age=5"), api.OK},
		{9, called("cn=a"), api.ErrNone},
		{9, called("zz=a"), api.ErrNone},
		{9, api.Name{Rdns: []api.Rdn{{}}}, api.ErrNone},
		{7, called("zz=a"), api.ErrType},
		{7, called("cn="), api.ErrValue},
		{7, called("cn=a+CN=b"), api.ErrTwice},
		{7, api.Name{Rdns: []api.Rdn{{}}}, api.ErrName},
		{7, api.Name{Rdns: make([]api.Rdn, api.MaxRdns+1)}, api.ErrLong},
		{7, partsOf(api.MaxRdns), api.OK},
	} {
		if e := b.it.Rename(c.id, c.n); e != c.want {
			t.Errorf("Rename(%d, %.60q): %v; want %v", c.id, c.n, e, c.want)
		}
		b.rename(c.id, c.n)
		b.check(d, every...)
	}
}

// P15.2: Delete twice, and Add anew behind it: nothing is left of what was there.
func TestDelete(t *testing.T) {
	b := bothOf(t, testSchema(t))
	d := diceOf(b.s, 1)
	every := d.every(b.s)
	b.add(7, called("cn=a"), made("objectClass|person", "cn|Ann", "age|5", "sn|abc"))
	b.add(8, called("cn=a"), made("objectClass|person", "cn|Ann"))
	for _, want := range []api.Errno{api.OK, api.ErrNone, api.ErrNone} {
		if e := b.delete(7); e != want {
			t.Errorf("Delete: %v; want %v", e, want)
		}
		b.check(d, every...)
	}
	finds(t, b.it, equal(tCn, "ann"), 8)
	if e := b.modify(7, mod(api.ModAdd, "cn|b")); e != api.ErrNone {
		t.Error(e)
	}
	if e := b.rename(7, called("cn=b")); e != api.ErrNone {
		t.Error(e)
	}
	if e := b.add(7, called("cn=c"), made("objectClass|thing", "cn|Eve")); e != api.OK {
		t.Error(e)
	}
	b.check(d, every...)
	isAt(t, b.it, 7, "cn=c", "cn|Eve", "objectClass|thing")
	finds(t, b.it, equal(tCn, "ann"), 8)
	finds(t, b.it, equal(tCn, "eve"), 7)
	finds(t, b.it, have(tAge))
	// The same entry comes back, too.
	b.delete(8)
	b.add(8, called("cn=a"), made("objectClass|person", "cn|Ann"))
	b.check(d, every...)
	b.delete(7)
	b.delete(8)
	b.check(d, every...)
	if b.it.Len() != 0 {
		t.Errorf("there are %d", b.it.Len())
	}
}

// P15.4: fetches that can't be asked, and all kinds that can, behind each change.
func TestFetches(t *testing.T) {
	b := bothOf(t, testSchema(t))
	refuses := func(q api.Fetch) {
		t.Helper()
		if l, e := b.it.Fetch(q); e != api.ErrArg || len(l) > 0 || b.it.Can(q) || b.it.Count(q) != 0 {
			t.Errorf("%v: %v, %v, %d", q, l, e, b.it.Count(q))
		}
	}
	for range 2 { // whether there are records makes no difference
		for _, place := range []int{-1, types, types + 1, 1 << 40} {
			for kind := range int8(7) {
				refuses(api.Fetch{Kind: kind - 1, Type: place, Key: "ann", Pieces: []string{"ann", ""}})
			}
		}
		for _, kind := range []int8{-128, -1, 5, 6, 127} {
			refuses(api.Fetch{Kind: kind, Type: tName, Key: "ann", Pieces: []string{"ann", ""}})
		}
		for _, q := range []api.Fetch{have(tCn), from(tCn, "a"), upTo(tCn, "z"), part(tAge, "123", ""), have(tYears), equal(tYears, ""), have(tStill), equal(tStill, "a"), equal(tPhoto, ""), have(tPhoto),
			part(tName), part(tName, "ann"), part(tName, "a", "")} {
			refuses(q)
		}
		b.add(7, called("cn=a"), made("objectClass|person", "cn|Ann|Bob", "years|5", "photo|x"))
		b.add(3, called("cn=a"), made("objectClass|thing|extra", "cn;x|ann", "age|100", "still|ann"))
	}
	finds(t, b.it, have(tName), 3, 7)
	finds(t, b.it, equal(tName, "bob"), 7)
	finds(t, b.it, equal(tCn, "ann"), 3, 7)
	finds(t, b.it, from(tName, "b"), 7)
	finds(t, b.it, upTo(tName, "b"), 3, 7)
	finds(t, b.it, part(tCn, "an", ""), 3, 7)
	finds(t, b.it, part(tCn, "", "ob"), 7)
	finds(t, b.it, from(tYears, ""), 7)
	finds(t, b.it, have(tAge), 3, 7)
	finds(t, b.it, equal(tClass, "1.6"), 3)
	finds(t, b.it, equal(tClass, "2.5.6.6"), 7)
	b.modify(7, mod(api.ModDelete, "cn|bob"), mod(api.ModDelete, "years"))
	finds(t, b.it, equal(tName, "bob"))
	finds(t, b.it, part(tCn, "", "ob"))
	finds(t, b.it, have(tAge), 3)
	b.delete(3)
	finds(t, b.it, equal(tCn, "ann"), 7)
	finds(t, b.it, have(tAge))
}
