package entry_test

import (
	"reflect"
	"strings"
	"sync"
	"testing"

	"roster/api"
	"roster/entry"
)

// R1: a nil Schema, whatever else is wrong.
func TestNilSchema(t *testing.T) {
	for _, e := range []api.Entry{{}, made("cn|a"), made("cn"), made("cn|a|a"), {Attrs: make([]api.Attr, api.MaxAttrs+1)}} {
		checkNotTidy(t, nil, e, api.ErrNil, 0)
		checkCheck(t, nil, e, api.ErrNil, 0)
		checkNoApply(t, nil, e, api.ErrNil, 0)
		checkNoApply(t, nil, e, api.ErrNil, 0, mod(api.ModAdd, "cn|a"))
		checkNoApply(t, nil, e, api.ErrNil, 0, mod(9, "cn|a"))
		checkNoApply(t, nil, e, api.ErrNil, 0, make([]api.Mod, api.MaxMods+1)...)
		for _, desc := range []string{"cn", "", "objectClass"} {
			if walked(nil, e, desc) != "" || entry.Has(nil, e, desc, "a") {
				t.Errorf("%s has %s", shown(e), desc)
			}
		}
	}
}

// spoil writes over all of an entry's lists, the room behind their ends too.
func spoil(e api.Entry) {
	for _, attr := range e.Attrs[:cap(e.Attrs)] {
		values := attr.Values[:cap(attr.Values)]
		for i := range values {
			values[i] = "spoilt"
		}
	}
	clear(e.Attrs[:cap(e.Attrs)])
}

// roomy is a list with marks in the room behind its end.
func roomy(values ...string) []string {
	return append(values, "mark", "mark")[:len(values)]
}

// R3: what is handed in is not changed, nor is the room behind its ends.
func TestNothingIsChanged(t *testing.T) {
	s := testSchema(t)
	entryOf := func() api.Entry {
		attrs := []api.Attr{{Desc: "NAME;X", Values: roomy("b", "A")}, {Desc: "kind", Values: roomy("roomy", "2.5.6.0")}, {Desc: "tally", Values: roomy("10", "9")}, {Desc: "mark"}}
		return api.Entry{Attrs: attrs[:3]}
	}
	modsOf := func() []api.Mod {
		mods := []api.Mod{
			{Op: api.ModAdd, Attr: api.Attr{Desc: "name;x", Values: roomy("d", "C")}},
			{Op: api.ModDelete, Attr: api.Attr{Desc: "Name;x", Values: roomy("B", "a")}},
			{Op: api.ModReplace, Attr: api.Attr{Desc: "photo", Values: roomy("b", "a")}},
			{Op: api.ModMore, Attr: api.Attr{Desc: "1.3", Values: roomy("1")}},
			{Op: 9},
		}
		return mods[:4]
	}
	whole := func(e api.Entry, mods []api.Mod) (out []any) {
		for _, attr := range e.Attrs[:cap(e.Attrs)] {
			out = append(out, attr.Desc, strings.Join(attr.Values[:cap(attr.Values)], "|"), len(attr.Values))
		}
		for _, mod := range mods[:cap(mods)] {
			out = append(out, mod.Op, mod.Attr.Desc, strings.Join(mod.Attr.Values[:cap(mod.Attr.Values)], "|"), len(mod.Attr.Values))
		}
		return out
	}
	e, mods := entryOf(), modsOf()
	entry.Tidy(s, e)
	entry.Check(s, e)
	if _, code, at := entry.Apply(s, e, mods); code != api.OK {
		t.Errorf("%v at %d", code, at)
	}
	walked(s, e, "name")
	entry.Has(s, e, "name", "B")
	entry.Twin(e)
	entry.Same(e, e)
	if got, want := whole(e, mods), whole(entryOf(), modsOf()); !reflect.DeepEqual(got, want) {
		t.Errorf("%q; want %q", got, want)
	}
	if !reflect.DeepEqual(s.Plain(), plainSchema()) {
		t.Error("the schema is another one")
	}
}

// R3: what is handed out is new: what is written there, or later in what was handed in, shows nowhere else.
func TestNothingIsShared(t *testing.T) {
	s := testSchema(t)
	e := made("kind|roomy", "name|Ann|Bob", "photo|a|b|c")
	mods := []api.Mod{mod(api.ModAdd, "flag|TRUE"), mod(api.ModReplace, "Blob|1|2"), mod(api.ModAdd, "photo|d")}
	want := made("Blob|1|2", "flag|TRUE", "kind|roomy", "name|Ann|Bob", "photo|a|b|c|d")
	first, _, _ := entry.Tidy(s, e)
	changed, _, _ := entry.Apply(s, e, mods)
	again, _, _ := entry.Apply(s, e, mods)
	plain, _, _ := entry.Apply(s, e, nil)
	spoil(first)
	spoil(changed)
	if !isSame(e, made("kind|roomy", "name|Ann|Bob", "photo|a|b|c")) || !isSame(plain, e) || !isSame(again, want) {
		t.Errorf("%s; %s; %s", shown(e), shown(plain), shown(again))
	}
	checkApply(t, s, e, want, mods...)
	tidy, _, _ := entry.Tidy(s, e)
	spoil(e)
	for _, mod := range mods {
		spoil(api.Entry{Attrs: []api.Attr{mod.Attr}})
	}
	if !isSame(tidy, plain) || !isSame(again, want) {
		t.Errorf("%s; %s", shown(tidy), shown(again))
	}
}

// R3: no two lists of one answer share any room.
func TestListsShareNothing(t *testing.T) {
	s := testSchema(t)
	e, _, _ := entry.Tidy(s, made("kind|roomy", "name|Ann|Bob", "photo|a|b|c", "count|1"))
	for _, answer := range []func() api.Entry{
		func() api.Entry { return entry.Twin(e) },
		func() api.Entry { out, _, _ := entry.Tidy(s, e); return out },
		func() api.Entry { out, _, _ := entry.Apply(s, e, nil); return out },
	} {
		got := answer()
		for i := range got.Attrs {
			for range 3 {
				got.Attrs[i].Values = append(got.Attrs[i].Values, "more")
			}
		}
		for i, attr := range got.Attrs {
			if own := len(e.Attrs[i].Values); !isSame(api.Entry{Attrs: []api.Attr{{Desc: attr.Desc, Values: attr.Values[:own]}}}, api.Entry{Attrs: e.Attrs[i : i+1]}) {
				t.Errorf("%s", shown(got))
			}
		}
	}
}

// R2: one schema and one entry are asked by many at once.
func TestManyAskAtOnce(t *testing.T) {
	s := testSchema(t)
	var all sync.WaitGroup
	e := made("kind|ROOMY|top", "Name|b|A", "tally|10|9|-1")
	mods := []api.Mod{mod(api.ModMore, "tally|1"), mod(api.ModDelete, "name|a"), mod(api.ModAdd, "photo|x")}
	walk := entry.Values(s, e, "name")
	for range 8 {
		all.Go(func() {
			for range 50 {
				checkTidy(t, s, e, made("kind|top|ROOMY", "name|A|b", "tally|-1|10|9"))
				checkCheck(t, s, e, api.OK, 0)
				checkApply(t, s, e, made("kind|top|ROOMY", "name|b", "photo|x", "tally|0|10|11"), mods...)
				for canon, value := range walk {
					if canon != "name" || value != "b" && value != "A" {
						t.Errorf("%s, %s", canon, value)
					}
				}
				if !entry.Has(s, e, "name", "B") {
					t.Error("it has")
				}
			}
		})
	}
	all.Wait()
}
