package index_test

import (
	"fmt"
	"reflect"
	"slices"
	"strings"
	"sync"
	"testing"

	"roster/api"
	"roster/entry"
	"roster/index"
)

// roomy is a list with marks in the room behind its end.
func roomy(values ...string) []string {
	return append(values, "mark", "mark")[:len(values)]
}

// spoil writes over all of an entry's lists, the room behind their ends too.
func spoil(e api.Entry) {
	for _, attr := range e.Attrs[:cap(e.Attrs)] {
		values := attr.Values[:cap(attr.Values)]
		for at := range values {
			values[at] = "spoilt"
		}
	}
	for at := range e.Attrs[:cap(e.Attrs)] {
		e.Attrs[:cap(e.Attrs)][at] = api.Attr{Desc: "cn", Values: []string{"spoilt"}}
	}
}

// R3: entries that the caller writes over stay in the index as they were put.
func TestEntriesAreNotKept(t *testing.T) {
	s := testSchema(t)
	for seed := range int64(20) {
		d := diceOf(s, seed)
		b := bothOf(t, s)
		every := d.every(s)
		for range 30 {
			id, e := uint64(d.Intn(10)), d.entry()
			handed := entry.Twin(e)
			b.it.Put(id, handed)
			b.plain[id] = e
			spoil(handed)
			if d.Intn(3) == 0 {
				b.drop(uint64(d.Intn(10)))
			}
			tellsOf(t, b.it, equal(tCn, "spoilt"))
		}
		b.check(every...)
		for id := range uint64(10) {
			b.drop(id)
		}
		b.check(every...)
	}
}

// R3: nothing that is handed in is changed, nor is the room behind its ends.
func TestNothingIsChanged(t *testing.T) {
	s := testSchema(t)
	x := index.New(s)
	entryOf := func() api.Entry {
		attrs := []api.Attr{{Desc: "CN;X", Values: roomy("b", "A", "b")}, {Desc: "age", Values: roomy("10", "9")}, {Desc: "name", Values: roomy("z", "a")}, {Desc: "mark"}}
		return api.Entry{Attrs: attrs[:3]}
	}
	whole := func(e api.Entry) (out []string) {
		for _, attr := range e.Attrs[:cap(e.Attrs)] {
			out = append(out, attr.Desc, strings.Join(attr.Values[:cap(attr.Values)], "|"), fmt.Sprint(len(attr.Values)))
		}
		return out
	}
	e := entryOf()
	x.Put(1, e)
	x.Put(1, e)
	x.Put(2, e)
	x.Drop(1)
	if got, want := whole(e), whole(entryOf()); !slices.Equal(got, want) {
		t.Errorf("%q; want %q", got, want)
	}
	pieces := roomy("xyz", "", "abc", "ab")
	q := part(tName, pieces...)
	q.Pieces = pieces
	x.Can(q)
	x.Fetch(q)
	x.Count(q)
	if got := strings.Join(pieces[:cap(pieces)][:6], "|"); got != "xyz||abc|ab|mark|mark" {
		t.Errorf("%s", got)
	}
	if !reflect.DeepEqual(s.Plain(), plainSchema()) {
		t.Error("the schema is another one")
	}
}

// R3: what the caller writes into an answer, and into the room behind its end, no other answer shows.
func TestAnswersAreNewMemory(t *testing.T) {
	s := testSchema(t)
	b := bothOf(t, s)
	d := diceOf(s, 3)
	for id := range uint64(40) {
		b.putEntry(id, d.entry())
	}
	every := d.every(s)
	for _, q := range every {
		first, _ := b.it.Fetch(q)
		second, _ := b.it.Fetch(q)
		want := slices.Clone(second)
		first = first[:cap(first)]
		for at := range first {
			first[at] = 1234567
		}
		if !slices.Equal(second, want) {
			t.Fatalf("Fetch(%s) became %v; want %v", shown(q), second, want)
		}
		b.check(q)
	}
	b.check(every...)
}

// R3: what was told stays as it was, whatever is done later.
func TestAnswersStay(t *testing.T) {
	b := bothOf(t, testSchema(t))
	for id := range uint64(10) {
		b.put(id, "name|abc", "age|5")
	}
	fetches := []api.Fetch{have(tName), equal(tName, "abc"), from(tAge, ""), upTo(tAge, number("5")), part(tName, "abc", "")}
	var told [][]uint64
	for _, q := range fetches {
		l, _ := b.it.Fetch(q)
		told = append(told, l)
	}
	for id := range uint64(20) {
		b.put(id, "name|abd", "age|5")
		b.drop(id / 2)
	}
	for at, l := range told {
		if !slices.Equal(l, []uint64{0, 1, 2, 3, 4, 5, 6, 7, 8, 9}) {
			t.Errorf("Fetch(%s) became %v", shown(fetches[at]), l)
		}
	}
	b.check(fetches...)
}

// Asking changes nothing: many may ask at one time, and all are told the same.
func TestManyAskAtOneTime(t *testing.T) {
	s := testSchema(t)
	b := bothOf(t, s)
	d := diceOf(s, 8)
	for id := range uint64(60) {
		b.putEntry(id, d.entry())
	}
	every := d.every(s)
	var want []string
	for _, q := range every {
		l, e := b.it.Fetch(q)
		want = append(want, fmt.Sprint(l, e, b.it.Count(q), b.it.Can(q)))
	}
	var group sync.WaitGroup
	for range 8 {
		group.Go(func() {
			for at, q := range every {
				l, e := b.it.Fetch(q)
				if got := fmt.Sprint(l, e, b.it.Count(q), b.it.Can(q)); got != want[at] {
					t.Errorf("%s: %s; want %s", shown(q), got, want[at])
				}
			}
		})
	}
	group.Wait()
}
