package store_test

import (
	"fmt"
	"reflect"
	"slices"
	"sync"
	"testing"

	"roster/api"
	"roster/entry"
	"roster/name"
	"roster/store"
)

// spoilAttrs writes over all lists of attributes, the room behind their ends too.
func spoilAttrs(attrs []api.Attr) {
	attrs = attrs[:cap(attrs)]
	for at := range attrs {
		values := attrs[at].Values[:cap(attrs[at].Values)]
		for k := range values {
			values[k] = "spoilt"
		}
		attrs[at] = api.Attr{Desc: "cn", Values: []string{"spoilt"}}
	}
}

func spoilName(n api.Name) {
	parts := n.Rdns[:cap(n.Rdns)]
	for at := range parts {
		pairs := parts[at].Avas[:cap(parts[at].Avas)]
		for k := range pairs {
			pairs[k] = api.Ava{Type: "cn", Value: "spoilt"}
		}
		parts[at] = called("cn=spoilt").Rdns[0]
	}
}

func spoilMods(mods []api.Mod) {
	for at := range mods {
		spoilAttrs([]api.Attr{mods[at].Attr})
		mods[at] = mod(api.ModReplace, "cn|spoilt")
	}
}

func spoilIds(ids []uint64) {
	ids = ids[:cap(ids)]
	for at := range ids {
		ids[at] = 1234567
	}
}

func nameTwin(n api.Name) api.Name {
	twin, _ := name.Above(name.Under(api.Rdn{}, n))
	return twin
}

func modsTwin(mods []api.Mod) []api.Mod {
	mods = slices.Clone(mods)
	for at := range mods {
		mods[at].Attr.Values = slices.Clone(mods[at].Attr.Values)
	}
	return mods
}

// R3: names, entries and mods that the caller writes over stay in the store as they were handed in.
func TestNothingHandedInIsKept(t *testing.T) {
	s := testSchema(t)
	for seed := range int64(15) {
		d := diceOf(s, seed+500)
		b := bothOf(t, s)
		every := append(d.every(s), equal(tCn, "spoilt"))
		for range 40 {
			id, n, e, mods := oneOf(d, someIds), d.name(), d.entry(), d.mods()
			handed, handedEntry, handedMods := nameTwin(n), entry.Twin(e), modsTwin(mods)
			switch d.Intn(4) {
			case 0, 1:
				b.it.Add(id, handed, handedEntry)
				b.plain.add(id, n, e)
			case 2:
				b.it.Rename(id, handed)
				b.plain.rename(id, n)
			case 3:
				b.it.Modify(id, handedMods)
				b.plain.modify(id, mods)
			}
			spoilName(handed)
			spoilAttrs(handedEntry.Attrs)
			spoilMods(handedMods)
			b.check(d, every[d.Intn(len(every)-5):][:5]...)
		}
		b.check(d, every...)
	}
}

// R3: what the caller writes into records and lists that were told shows in no later answer, the clone's neither.
func TestNothingToldIsKept(t *testing.T) {
	s := testSchema(t)
	for seed := range int64(10) {
		d := diceOf(s, seed+600)
		b := bothOf(t, s)
		every := append(d.every(s), equal(tCn, "spoilt"))
		spoil := func(it *store.Store) {
			for _, id := range someIds {
				r, _ := it.Get(id)
				spoilAttrs(r.Entry.Attrs)
				spoilName(r.Name)
			}
			spoilIds(it.Ids())
			for _, q := range every {
				l, _ := it.Fetch(q)
				spoilIds(l)
			}
		}
		for range 30 {
			b.step(d)
		}
		twin := b.twin()
		for range 3 {
			spoil(b.it)
			spoil(twin.it)
			b.check(d, every...)
			twin.check(d, every...)
			b.step(d)
			twin.step(d)
		}
	}
}

// R3: what was told stays as it was, whatever is done later to the store.
func TestAnswersStay(t *testing.T) {
	s := testSchema(t)
	d := diceOf(s, 700)
	b := bothOf(t, s)
	every := d.every(s)
	for range 40 {
		b.step(d)
	}
	var records []api.Record
	var lists [][]uint64
	for _, id := range someIds {
		r, _ := b.it.Get(id)
		records = append(records, r)
	}
	for _, q := range every {
		l, _ := b.it.Fetch(q)
		lists = append(lists, l)
	}
	lists = append(lists, b.it.Ids())
	before := fmt.Sprint(lists, shownAll(records))
	for range 60 {
		b.step(d)
	}
	for _, id := range someIds {
		b.delete(id)
	}
	if after := fmt.Sprint(lists, shownAll(records)); after != before {
		t.Errorf("%s became %s", before, after)
	}
}

// R3: no two lists of a record share any room, were it so in what was handed in.
func TestListsShareNothing(t *testing.T) {
	it := store.New(testSchema(t))
	pair := make([]api.Ava, 1, 9)
	pair[0] = api.Ava{Type: "cn", Value: "a"}
	values := make([]string, 1, 9)
	values[0] = "abc"
	n := api.Name{Rdns: []api.Rdn{{Avas: pair}, {Avas: pair}, {Avas: pair}}}
	e := api.Entry{Attrs: []api.Attr{{Desc: "objectClass", Values: []string{"person"}}, {Desc: "cn", Values: values}, {Desc: "sn", Values: values}, {Desc: "name", Values: values}}}
	if e, at := it.Add(1, n, e); e != api.OK {
		t.Fatal(e, at)
	}
	it.Rename(1, n)
	for _, it := range []*store.Store{it, it.Clone()} {
		r, _ := it.Get(1)
		for at := range r.Name.Rdns {
			r.Name.Rdns[at].Avas[0].Value = fmt.Sprint(at)
			r.Name.Rdns[at].Avas = append(r.Name.Rdns[at].Avas, api.Ava{Type: "sn", Value: fmt.Sprint(at)})
		}
		for at := range r.Entry.Attrs {
			r.Entry.Attrs[at].Values[0] = fmt.Sprint(at)
			r.Entry.Attrs[at].Values = append(r.Entry.Attrs[at].Values, fmt.Sprint(at), fmt.Sprint(at))
		}
		want := api.Record{Id: 1, Name: called("cn=0+sn=0,cn=1+sn=1,cn=2+sn=2"), Entry: made("cn|0|0|0", "name|1|1|1", "objectClass|2|2|2", "sn|3|3|3")}
		if shown(r) != shown(want) {
			t.Errorf("%s; want %s", shown(r), shown(want))
		}
		isAt(t, it, 1, "cn=a,cn=a,cn=a", "cn|abc", "name|abc", "objectClass|person", "sn|abc")
	}
}

// roomy is a list with marks in the room behind its end.
func roomy(values ...string) []string {
	return append(values, "mark", "mark")[:len(values)]
}

// R3: nothing that is handed in is changed, nor is the room behind its ends.
func TestNothingIsChanged(t *testing.T) {
	s := testSchema(t)
	entryOf := func() api.Entry {
		attrs := []api.Attr{{Desc: "SN;X", Values: roomy("b", "A")}, {Desc: "objectClass", Values: roomy("thing", "person")[1:]}, {Desc: "COMMONNAME", Values: roomy("z", "a")}, {Desc: "age", Values: roomy("9", "10")}, {Desc: "mark"}}
		return api.Entry{Attrs: attrs[:4]}
	}
	modsOf := func() []api.Mod {
		mods := []api.Mod{
			{Op: api.ModAdd, Attr: api.Attr{Desc: "CN", Values: roomy("y", "b")}},
			{Op: api.ModReplace, Attr: api.Attr{Desc: "photo", Values: roomy("2", "1")}},
			{Op: api.ModDelete, Attr: api.Attr{Desc: "2.5.4.3", Values: roomy("Z", "A")}},
			{Op: api.ModMore, Attr: api.Attr{Desc: "age", Values: roomy("1")}},
			{Op: 9},
		}
		return mods[:4]
	}
	nameOf := func() api.Name {
		parts := called("sn=b+cn=a,cn=c,cn=mark").Rdns
		parts[0].Avas = append(parts[0].Avas, api.Ava{Type: "mark"})[:2]
		return api.Name{Rdns: parts[:2]}
	}
	whole := func(n api.Name, e api.Entry, mods []api.Mod) (out []any) {
		for _, part := range n.Rdns[:cap(n.Rdns)] {
			out = append(out, len(part.Avas), part.Avas[:cap(part.Avas)])
		}
		for _, attr := range e.Attrs[:cap(e.Attrs)] {
			out = append(out, attr.Desc, len(attr.Values), attr.Values[:cap(attr.Values)])
		}
		for _, mod := range mods[:cap(mods)] {
			out = append(out, mod.Op, mod.Attr.Desc, len(mod.Attr.Values), mod.Attr.Values[:cap(mod.Attr.Values)])
		}
		return out
	}
	it := store.New(s)
	n, e, mods := nameOf(), entryOf(), modsOf()
	for _, wrong := range []func() (api.Errno, int){
		func() (api.Errno, int) { return it.Add(1, n, e) },
		func() (api.Errno, int) { return it.Add(2, n, e) },
		func() (api.Errno, int) { return it.Modify(1, mods) },
		func() (api.Errno, int) { return it.Rename(1, n), 0 },
	} {
		if e, at := wrong(); e != api.OK {
			t.Fatal(e, at)
		}
	}
	it.Clone().Modify(2, mods)
	it.Delete(1)
	if got, want := whole(n, e, mods), whole(nameOf(), entryOf(), modsOf()); !reflect.DeepEqual(got, want) {
		t.Errorf("%q; want %q", got, want)
	}
	pieces := roomy("xyz", "", "abc", "ab")
	q := part(tName, pieces...)
	it.Can(q)
	it.Fetch(q)
	it.Count(q)
	if got := pieces[:6]; !slices.Equal(got, []string{"xyz", "", "abc", "ab", "mark", "mark"}) {
		t.Errorf("%q", got)
	}
	if !reflect.DeepEqual(s.Plain(), plainSchema()) {
		t.Error("the schema is another one")
	}
}

// R2: asking changes nothing: many may ask, and clone, at one time.
func TestManyAskAtOneTime(t *testing.T) {
	s := testSchema(t)
	d := diceOf(s, 800)
	b := bothOf(t, s)
	every := d.every(s)
	for range 60 {
		b.step(d)
	}
	whole := func(it *store.Store) string {
		out := []any{it.Ids(), it.Len()}
		for _, id := range someIds {
			r, e := it.Get(id)
			out = append(out, shown(r), e)
		}
		for _, q := range every {
			out = append(out, told(it, q))
		}
		return fmt.Sprint(out...)
	}
	want := whole(b.it)
	var group sync.WaitGroup
	for range 8 {
		group.Go(func() {
			twin := b.it.Clone()
			if whole(b.it) != want || whole(twin) != want {
				t.Error("another one is told")
			}
			// And what is done to a clone the others don't see.
			twin.Delete(twin.Ids()[0])
			twin.Add(77, called("cn=a"), made("objectClass|person", "cn|Ann"))
			if whole(b.it) != want || whole(twin) == want {
				t.Error("the clone is not by itself")
			}
		})
	}
	group.Wait()
}
