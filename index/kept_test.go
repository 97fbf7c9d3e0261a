package index

import (
	"fmt"
	"testing"

	"roster/api"
	"roster/gram"
	"roster/schema"
)

// What was dropped, or put anew without values, leaves nothing behind; nor does what was only asked for, nor an entry that no index is about.
func TestNothingIsKeptOfWhatIsGone(t *testing.T) {
	s, e, at := schema.New(api.Schema{Types: []api.Type{
		{Oid: "2.5.4.0", Names: []string{"objectClass"}, Syntax: api.SynOid, Equal: api.RuleOid, Index: api.IxHave},
		{Oid: "2.5.4.41", Names: []string{"name"}, Equal: api.RuleFold, Order: api.RuleFoldOrder, Part: api.RuleFoldPart, Index: api.IxHave | api.IxEqual | api.IxOrder | api.IxPart},
		{Oid: "2.5.4.3", Names: []string{"cn"}, Sup: "name"},
	}})
	if e != api.OK {
		t.Fatal(e, at)
	}
	x := New(s)
	entryOf := func(desc string, values ...string) api.Entry {
		return api.Entry{Attrs: []api.Attr{{Desc: desc, Values: values}}}
	}
	for id := range uint64(50) {
		x.Put(id, entryOf("cn", "Ann", fmt.Sprint("name ", id), "ann", ""))
		x.Put(id+100, entryOf("zz", "Ann"))
		x.Put(id+200, entryOf("cn"))
	}
	if len(x.notes) != 50 || x.shelves[1].equal.byKey.Len() != 51 || x.shelves[2].equal.byKey.Len() != 0 {
		t.Errorf("%d entries and %d keys are kept", len(x.notes), x.shelves[1].equal.byKey.Len())
	}
	if got := len(x.notes[7]); got != 1+2+2+2 { // a value, and two keys in each of three
		t.Errorf("%d notes are kept of an entry", got)
	}
	for id := range uint64(50) {
		if id%2 == 0 {
			x.Drop(id)
		} else {
			x.Put(id, entryOf("cn"))
		}
		x.Fetch(api.Fetch{Kind: api.GetEqual, Type: 1, Key: fmt.Sprint("other ", id)})
		x.Count(api.Fetch{Kind: api.GetFrom, Type: 1, Key: fmt.Sprint("other ", id)})
	}
	if len(x.notes) != 0 {
		t.Errorf("%d entries are kept", len(x.notes))
	}
	for _, h := range x.shelves {
		if len(h.have) != 0 || h.equal.byKey.Len() != 0 || h.order.byKey.Len() != 0 {
			t.Errorf("of %s are kept %d, %d and %d", h.desc, len(h.have), h.equal.byKey.Len(), h.order.byKey.Len())
		}
		for _, g := range append(gram.Grams("ann"), gram.Grams("name 7")...) {
			if h.parts.Count(g) != 0 {
				t.Errorf("of %s %d have a gram", h.desc, h.parts.Count(g))
			}
		}
	}
}
