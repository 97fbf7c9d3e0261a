package rank_test

import (
	"reflect"
	"slices"
	"strconv"
	"sync"
	"testing"

	"roster/api"
	"roster/rank"
)

// spoil writes over a list, the room behind its end too.
func spoil[T any](l []T, with T) {
	l = l[:cap(l)]
	for at := range l {
		l[at] = with
	}
}

// roomy has marks in the room behind the end.
func roomy[T any](mark T, l ...T) []T { return append(slices.Clip(l), mark, mark)[:len(l)] }

// roomyRecords have room behind the ends of all lists.
func roomyRecords() []api.Record {
	mark := api.Attr{Desc: "cn", Values: []string{"0"}}
	attr := func(desc string, values ...string) api.Attr {
		return api.Attr{Desc: desc, Values: roomy("0", values...)}
	}
	shared := attr("cn", "b", "A")
	record := func(attrs ...api.Attr) api.Record { return api.Record{Entry: api.Entry{Attrs: roomy(mark, attrs...)}} }
	return roomy(made("cn|0"), record(attr("CN;x", "d", "c"), attr("sn", "Z", "y")), record(shared), record(shared, attr("age", "10", "9")), record(), record(attr("cn")))
}

// whole is a list of records with the room behind all ends.
func whole(l []api.Record) (out []any) {
	for _, record := range l[:cap(l)] {
		attrs := record.Entry.Attrs
		out = append(out, len(l), len(attrs), record.Id, record.Name)
		for _, attr := range attrs[:cap(attrs)] {
			out = append(out, attr.Desc, len(attr.Values), slices.Clone(attr.Values[:cap(attr.Values)]))
		}
	}
	return out
}

// R3: what is handed in stays as it is, the room behind its ends too; that room tells nothing.
func TestNothingIsChanged(t *testing.T) {
	s := testSchema(t)
	l, was := roomyRecords(), whole(roomyRecords())
	mark := api.SortKey{Desc: "zz"}
	for _, texts := range [][]string{{"cn"}, {"!cn", "age"}, {"name 2.5.13.6", "!sn", "cn;x"}, {"zz"}, {"cn", "zz"}, {"age", "cn integerMatch"}, {}} {
		keys, kept := roomy(mark, keysOf(texts...)...), roomy(mark, keysOf(texts...)...)
		rank.Sort(s, l, keys)
		rank.Sort(nil, l, keys)
		if !slices.Equal(keys[:cap(keys)], kept[:cap(kept)]) {
			t.Errorf("the keys %s became %s", brief(kept), brief(keys))
		}
	}
	sorts(t, s, l, keysOf("cn"), 1, 2, 0, 3, 4)
	sorts(t, s, l, keysOf("!cn"), 0, 1, 2, 3, 4)
	sorts(t, s, l, keysOf("!cn", "age"), 0, 2, 1, 3, 4)
	if got := whole(l); !reflect.DeepEqual(got, was) {
		t.Errorf("the records became %q", got)
	}
	if !reflect.DeepEqual(s.Plain(), plainSchema()) {
		t.Error("the schema is another one")
	}
	ids := roomy[uint64](77, 5, 3, 9)
	for _, cookie := range []string{"", "1", "2", "3", "4", "x"} {
		for _, n := range []int{0, 1, 2, 3, 5} {
			rank.Page(ids, cookie, n)
		}
	}
	pages(t, ids, "1", 5, "", 3, 9)
	if !slices.Equal(ids[:cap(ids)], roomy[uint64](77, 5, 3, 9)[:cap(ids)]) {
		t.Errorf("the numbers became %d", ids[:cap(ids)])
	}
}

// R3: what the caller writes into an answer shows in no other one, nor in what was handed in.
func TestNothingToldIsKept(t *testing.T) {
	s := testSchema(t)
	for seed := range int64(100) {
		d := diceOf(seed + 9000)
		l, keys := d.records(20), d.good()
		first, second := sorted(t, s, l, keys), sorted(t, s, l, keys)
		kept := slices.Clone(second)
		spoil(first, -7)
		if !slices.Equal(second, kept) {
			t.Fatalf("%d became %d", kept, second)
		}
		sorts(t, s, l, keys, kept...)
	}
	ids := roomy[uint64](77, 5, 3, 9, 4)
	for from := range 5 {
		for n := 1; n < 6; n++ {
			cookie := strconv.Itoa(from)
			if from == 0 {
				cookie = ""
			}
			first, _, _ := rank.Page(ids, cookie, n)
			second, _, _ := rank.Page(ids, cookie, n)
			kept := slices.Clone(second)
			spoil(first, 1234567)
			if !slices.Equal(second, kept) || !slices.Equal(ids[:6], []uint64{5, 3, 9, 4, 77, 77}) {
				t.Fatalf("%d became %d; of %d", kept, second, ids[:6])
			}
		}
	}
}

// R3: what is handed in is not kept: what the caller writes there later shows in no answer.
func TestNothingHandedInIsKept(t *testing.T) {
	s := testSchema(t)
	l, keys := each("cn|b", "cn|a"), keysOf("cn")
	places := sorted(t, s, l, keys)
	l[0], l[1].Entry.Attrs[0].Values[0], keys[0].Back = made("cn|0"), "z", true
	if !slices.Equal(places, []int{1, 0}) {
		t.Errorf("the places became %d", places)
	}
	sorts(t, s, l, keysOf("cn"), 0, 1)
	sorts(t, s, l, keys, 1, 0)
	ids := []uint64{5, 3, 9}
	part, _, _ := rank.Page(ids, "1", 2)
	clear(ids)
	if !slices.Equal(part, []uint64{3, 9}) {
		t.Errorf("the part became %d", part)
	}
	pages(t, ids, "1", 1, "2", 0)
}

// R2: with one schema in many goroutines all answer what they answer alone.
func TestManyAtOnce(t *testing.T) {
	s := testSchema(t)
	l := diceOf(1).records(40)
	var all sync.WaitGroup
	for seed := range int64(8) {
		all.Go(func() {
			d := diceOf(seed + 9500)
			for range 40 {
				keys := d.any()
				got, wrong := rank.Sort(s, l, keys)
				want, e := plainSort(s, l, keys)
				if wrong != e || !slices.Equal(got, want) {
					t.Errorf("by %s there are %d, %v, not %d, %v", brief(keys), got, wrong, want, e)
				}
			}
		})
	}
	all.Wait()
}
