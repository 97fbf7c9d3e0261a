package view_test

import (
	"reflect"
	"slices"
	"sync"
	"testing"

	"roster/api"
	"roster/view"
)

// spoil writes over all lists of an answer, the room behind their ends too.
func spoil(f api.Found) {
	attrs := f.Attrs[:cap(f.Attrs)]
	for at := range attrs {
		spoilValues(attrs[at].Values)
		attrs[at] = api.Attr{Desc: "spoilt", Values: []string{"spoilt"}}
	}
}

func spoilValues(l []string) {
	l = l[:cap(l)]
	for at := range l {
		l[at] = "spoilt"
	}
}

// roomy has marks in the room behind the end.
func roomy[T any](mark T, l ...T) []T { return append(slices.Clip(l), mark, mark)[:len(l)] }

// roomyRecord has room behind the ends of all lists, and one list of values twice.
func roomyRecord() api.Record {
	mark := api.Attr{Desc: "cn", Values: []string{"mark"}}
	shared := roomy("mark", "b", "A")
	attrs := roomy(mark, api.Attr{Desc: "CN;X", Values: roomy("mark", "d", "c")}, api.Attr{Desc: "nick", Values: shared}, api.Attr{Desc: "zz", Values: shared}, api.Attr{Desc: "cn", Values: roomy("mark")}, api.Attr{Desc: "sn"})
	avas := roomy(api.Ava{Type: "cn", Value: "mark"}, api.Ava{Type: "cn", Value: "Ann"})
	return api.Record{Id: 7, Name: api.Name{Rdns: roomy(api.Rdn{}, api.Rdn{Avas: avas})}, Entry: api.Entry{Attrs: attrs}}
}

// whole is a record with the room behind all ends.
func whole(r api.Record) (out []any) {
	attrs, parts := r.Entry.Attrs, r.Name.Rdns
	out = append(out, r.Id, len(attrs), len(parts))
	for _, attr := range attrs[:cap(attrs)] {
		out = append(out, attr.Desc, len(attr.Values), slices.Clone(attr.Values[:cap(attr.Values)]))
	}
	for _, part := range parts[:cap(parts)] {
		out = append(out, len(part.Avas), slices.Clone(part.Avas[:cap(part.Avas)]))
	}
	return out
}

var manyWords = [][]string{nil, {}, {"*"}, {"1.1", "*"}, {"sn", "cn"}, {"zz", "nick", "CN;x", "cn;X"}, {"name"}, {"1.1"}, {"commonName", "zz", "cn", "2.5.4.3"}}

// R3: what is handed in stays as it is, the room behind its ends too; that room tells nothing.
func TestNothingIsChanged(t *testing.T) {
	s := testSchema(t)
	r, was := roomyRecord(), whole(roomyRecord())
	for _, words := range manyWords {
		wanted, kept := roomy("*", words...), roomy("*", words...)
		for _, only := range []bool{false, true} {
			view.Show(s, r, wanted, only)
			view.Show(nil, r, wanted, only)
		}
		view.Wants(s, wanted, "cn")
		view.Wants(nil, wanted, "cn")
		if len(wanted) != len(kept) || !slices.Equal(wanted[:cap(wanted)], kept[:cap(kept)]) {
			t.Errorf("the words %q became %q", kept[:cap(kept)], wanted[:cap(wanted)])
		}
	}
	shows(t, s, r, roomy("*", "1.1"))
	shows(t, s, r, roomy("*", "nick"), "nick|b|A")
	shows(t, s, r, nil, "CN;X|d|c", "nick|b|A", "zz|b|A", "cn", "sn")
	wants(t, s, roomy("*", "1.1"), false, "cn")
	if got := whole(r); !reflect.DeepEqual(got, was) {
		t.Errorf("the record became %q", got)
	}
	if !reflect.DeepEqual(s.Plain(), plainSchema()) {
		t.Error("the schema is another one")
	}
}

// R3: what the caller writes into an answer, or puts behind it, shows in no other one, nor in the record.
func TestNothingToldIsKept(t *testing.T) {
	s := testSchema(t)
	for _, words := range manyWords {
		for _, only := range []bool{false, true} {
			r := roomyRecord()
			first, _ := view.Show(s, r, words, only)
			second, _ := view.Show(s, r, words, only)
			kept := written(second.Attrs)
			spoil(first)
			first.Attrs = append(first.Attrs[:0], api.Attr{Desc: "grown"})
			third, _ := view.Show(s, r, words, only)
			if !slices.Equal(written(second.Attrs), kept) || !slices.Equal(written(third.Attrs), kept) {
				t.Errorf("wanted %q, %q became %q, and %q", words, kept, written(second.Attrs), written(third.Attrs))
			}
			if got := whole(r); !reflect.DeepEqual(got, whole(roomyRecord())) {
				t.Errorf("the record became %q", got)
			}
		}
	}
}

// R3: no two lists of one answer share any, their spare room neither.
func TestListsOfItsOwn(t *testing.T) {
	s := testSchema(t)
	shared := roomy("mark", "b", "A")
	r := made()
	for range 5 {
		r.Entry.Attrs = append(r.Entry.Attrs, api.Attr{Desc: "cn", Values: shared}, api.Attr{Desc: "cn", Values: shared[:0]})
	}
	for _, words := range [][]string{nil, {"cn"}} {
		found, _ := view.Show(s, r, words, false)
		for at := range found.Attrs {
			spoilValues(append(found.Attrs[at].Values, "grown"))
			spoilValues(found.Attrs[at].Values)
			for _, later := range found.Attrs[at+1:] {
				if text := written([]api.Attr{later})[0]; text != "cn|b|A" && text != "cn" {
					t.Fatalf("behind place %d %q is told", at, text)
				}
			}
		}
		if !slices.Equal(shared[:cap(shared)], roomy("mark", "b", "A")[:cap(shared)]) {
			t.Errorf("the values became %q", shared[:cap(shared)])
		}
	}
}

// R3: what is handed in is not kept: what the caller writes there later shows in no answer.
func TestNothingHandedInIsKept(t *testing.T) {
	s := testSchema(t)
	r, words := made("cn|a|b", "sn|c"), []string{"cn"}
	first, _ := view.Show(s, r, words, false)
	r.Entry.Attrs[0].Values[0], r.Entry.Attrs[1] = "z", api.Attr{Desc: "cn;x"}
	r.Name.Rdns[0].Avas[0].Value, words[0] = "Eve", "sn"
	if first.Name != "cn=Ann" || !slices.Equal(written(first.Attrs), []string{"cn|a|b"}) {
		t.Errorf("what was told became %q", first)
	}
	second, e := view.Show(s, r, words, false)
	if e != api.OK || second.Name != "cn=Eve" || len(second.Attrs) != 0 {
		t.Errorf("%q is told, %v", second, e)
	}
	r.Name.Rdns[0].Avas[0].Value = "Ann"
	shows(t, s, r, []string{"cn"}, "cn|z|b", "cn;x")
}

// R2: with one schema and one record in many goroutines all answer what they answer alone.
func TestManyAtOnce(t *testing.T) {
	s := testSchema(t)
	r := roomyRecord()
	var all sync.WaitGroup
	for seed := range int64(8) {
		all.Go(func() {
			d := diceOf(seed + 50000)
			for range 100 {
				words, only := d.words(), d.Intn(2) == 0
				text, attrs, e := plainShow(s, r, words, only)
				got, wrong := view.Show(s, r, words, only)
				if wrong != e || got.Name != text || !slices.Equal(written(got.Attrs), attrs) {
					t.Errorf("wanted %q, %s is told, %v, not %q, %v", words, brief(got), wrong, attrs, e)
				}
				spoil(got)
			}
		})
	}
	all.Wait()
}
