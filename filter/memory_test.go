package filter_test

import (
	"fmt"
	"reflect"
	"slices"
	"sync"
	"testing"

	"roster/api"
	"roster/filter"
)

// R1: a nil Schema, whatever the filter is.
func TestNilSchema(t *testing.T) {
	for _, f := range append(rising(), api.Filter{}, and(), equal("cn", "a"), rule("", "caseIgnoreMatch", "a"), nots(64, have("cn")), doubled(63, have("cn"))) {
		for _, r := range []api.Record{{}, chapterRecord("cn|q")} {
			checkSays(t, nil, f, r, api.Unknown)
		}
		if filter.Known(nil, f) {
			t.Errorf("%s is known", shown(f))
		}
		for _, desc := range []string{"cn", "", "a"} {
			if filter.Reads(nil, f, desc) {
				t.Errorf("%s reads %s", shown(f), desc)
			}
		}
	}
}

// spoil writes over all of a filter's lists, the room behind their ends too.
func spoil(f api.Filter) {
	for _, kid := range f.Kids {
		spoil(kid)
	}
	kids, middles := f.Kids[:cap(f.Kids)], f.Middles[:cap(f.Middles)]
	for i := range kids {
		kids[i] = api.Filter{Kind: 77, Desc: "spoilt"}
	}
	for i := range middles {
		middles[i] = "spoilt"
	}
}

// roomyFilter has marks in the room behind the ends of all its lists.
func roomyFilter() api.Filter {
	mark := api.Filter{Kind: 88, Desc: "mark"}
	room := func(kids ...api.Filter) []api.Filter { return append(kids, mark, mark)[:len(kids)] }
	part := api.Filter{Kind: api.FPart, Desc: "cn", Middles: append([]string{"a", "b"}, "mark", "mark")[:2]}
	inner := api.Filter{Kind: api.FOr, Kids: room(ruleDn("", "caseIgnoreMatch", "a"), part, have("age"))}
	empty := equal("CN;x", "A")
	empty.Kids, empty.Middles = room(), append([]string{}, "mark")[:0]
	return api.Filter{Kind: api.FAnd, Kids: room(inner, api.Filter{Kind: api.FNot, Kids: room(part)}, empty)}
}

func roomyRecord() api.Record {
	values := append([]string{"x", "A"}, "mark")[:2]
	attrs := append([]api.Attr{{Desc: "CN;X", Values: values}, {Desc: "zz", Values: values}}, api.Attr{Desc: "mark"})[:2]
	avas := append([]api.Ava{{Type: "CN", Value: "A"}}, api.Ava{Type: "mark"})[:1]
	return api.Record{Id: 7, Entry: api.Entry{Attrs: attrs}, Name: api.Name{Rdns: append([]api.Rdn{{Avas: avas}}, api.Rdn{})[:1]}}
}

// whole shows a filter with the room behind the ends of its lists.
func whole(f api.Filter) string {
	text := fmt.Sprintf("%d %q %q %q %q %q %d of %q", f.Kind, f.Desc, f.Value, f.Start, f.End, f.Rule, len(f.Middles), f.Middles[:cap(f.Middles)])
	for _, kid := range f.Kids[:cap(f.Kids)] {
		text += fmt.Sprintf(" %d(%s)", len(f.Kids), whole(kid))
	}
	return text
}

func wholeRecord(r api.Record) string {
	text := fmt.Sprint(r.Id, r.Name.Rdns[:cap(r.Name.Rdns)], r.Name.Rdns[0].Avas[:cap(r.Name.Rdns[0].Avas)], r.Entry.Attrs[:cap(r.Entry.Attrs)])
	for _, attr := range r.Entry.Attrs {
		text += fmt.Sprint(attr.Values[:cap(attr.Values)])
	}
	return text
}

// R3: what is handed in is not changed, nor is the room behind its ends.
func TestNothingIsChanged(t *testing.T) {
	s := testSchema(t)
	f, r := roomyFilter(), roomyRecord()
	if e, nodes, depth := filter.Check(f); e != api.OK || nodes != 7 || depth != 3 {
		t.Fatalf("%v, %d, %d", e, nodes, depth)
	}
	filter.Cmp(f, f)
	filter.Known(s, f)
	filter.Says(s, f, r)
	filter.Reads(s, f, "ou")
	spoil(filter.Twin(f))
	for _, item := range filter.Items(f) {
		spoil(item)
	}
	if got, want := whole(f), whole(roomyFilter()); got != want {
		t.Errorf("%s; want %s", got, want)
	}
	if got, want := wholeRecord(r), wholeRecord(roomyRecord()); got != want {
		t.Errorf("%s; want %s", got, want)
	}
	if !reflect.DeepEqual(s.Plain(), plainSchema()) {
		t.Error("the schema is another one")
	}
}

// R3: what is handed out is new: no list of it is one of the filter's, or another one of its own, where these share theirs.
func TestNothingIsShared(t *testing.T) {
	middles := []string{"a", "b"}
	shared := api.Filter{Kind: api.FPart, Desc: "cn", Middles: middles}
	list := []api.Filter{shared, or(shared, shared)}
	made := func() api.Filter { return and(and(list...), or(list...), not(and(list...))) }
	f := made()
	twin := filter.Twin(f)
	spoil(twin.Kids[0])
	if !isSame(f, made()) || middles[0] != "a" || !isSame(twin.Kids[1], f.Kids[1]) || !isSame(twin.Kids[2], f.Kids[2]) {
		t.Errorf("%s; %s", shown(f), shown(twin))
	}
	twin.Kids[1].Kids[0].Middles[0] = "x"
	if twin.Kids[1].Kids[1].Kids[0].Middles[0] != "a" || twin.Kids[1].Kids[1].Kids[1].Middles[0] != "a" || twin.Kids[2].Kids[0].Kids[0].Middles[0] != "a" {
		t.Error("lists of the twin share memory")
	}
	twin = filter.Twin(f)
	before := filter.Twin(twin)
	spoil(f)
	if !isSame(twin, before) {
		t.Error("the twin shares memory with the filter")
	}
}

// Room behind the ends of a twin's lists is its own, too.
func TestTwinRoom(t *testing.T) {
	f := roomyFilter()
	twin := filter.Twin(f)
	_ = append(twin.Kids, have("x"))
	_ = append(twin.Kids[0].Kids, have("x"))
	_ = append(twin.Kids[0].Kids[1].Middles, "x")
	_ = append(twin.Kids[2].Kids, have("x"))
	_ = append(twin.Kids[2].Middles, "x")
	if got, want := whole(f), whole(roomyFilter()); got != want {
		t.Errorf("%s; want %s", got, want)
	}
	for _, list := range [][]api.Filter{twin.Kids, twin.Kids[0].Kids} {
		for _, kid := range list[:cap(list)] {
			if kid.Kind == 88 {
				t.Error("a mark stands behind the end of a twin's list")
			}
		}
	}
	if slices.Contains(twin.Kids[0].Kids[1].Middles[:cap(twin.Kids[0].Kids[1].Middles)], "mark") {
		t.Error("a mark stands behind the end of a twin's pieces")
	}
}

// R2: all of it at the same time.
func TestGoroutines(t *testing.T) {
	d := diceOf(t, 12)
	var filters []api.Filter
	var records []api.Record
	var want []api.Truth
	for range 200 {
		f := d.filter(3)
		filters, records = append(filters, f), append(records, d.record(f))
	}
	for i := range filters {
		want = append(want, filter.Says(d.s, filters[i], records[i]))
	}
	items := filter.Items(and(filters...))
	many := len(gone(items, -1))
	var all sync.WaitGroup
	for range 8 {
		all.Go(func() {
			for i := range filters {
				checkSays(t, d.s, filters[i], records[i], want[i])
				filter.Known(d.s, filters[i])
				filter.Reads(d.s, filters[i], "cn")
				filter.Cmp(filters[i], filters[0])
				filter.Twin(filters[i])
			}
			if got := len(gone(items, -1)); got != many {
				t.Errorf("%d items; want %d", got, many)
			}
		})
	}
	all.Wait()
}
