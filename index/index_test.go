package index_test

import (
	"fmt"
	"slices"
	"strings"
	"testing"

	"roster/api"
	"roster/entry"
	"roster/index"
	"roster/schema"
)

// chapterText is chapter 5's schema.
const chapterText = `
attributetype ( 2.5.4.0 NAME 'objectClass' EQUALITY objectIdentifierMatch SYNTAX 1.3.6.1.4.1.1466.115.121.1.38 )
attributetype ( 2.5.4.41 NAME 'name' EQUALITY caseIgnoreMatch SUBSTR caseIgnoreSubstringsMatch SYNTAX 1.3.6.1.4.1.1466.115.121.1.15 )
attributetype ( 2.5.4.3 NAME ( 'cn' 'commonName' ) SUP name SYNTAX 1.3.6.1.4.1.1466.115.121.1.15 X-INDEX ( 'equal' 'part' ) )
objectclass ( 2.5.6.0 NAME 'top' ABSTRACT MUST objectClass )
objectclass ( 2.5.6.6 NAME 'person' SUP top STRUCTURAL MUST cn MAY name )
`

// The chapter's examples, one behind the other.
func TestExamples(t *testing.T) {
	text, err := schema.Parse(chapterText)
	if err != nil {
		t.Fatal(err)
	}
	x := index.New(schemaOf(t, text))
	x.Put(7, made("cn|Ann|Bob"))
	x.Put(3, made("cn;x|ann"))
	tellsOf(t, x, equal(2, "ann"), 3, 7)
	tellsOf(t, x, equal(2, "bob"), 7)
	tellsOf(t, x, equal(2, ""))
	tellsOf(t, x, part(2, "an", ""), 3, 7)
	if got := x.Count(part(2, "an", "")); got != 2 {
		t.Errorf("Count is %d", got)
	}
	refuses(t, x, have(2))
	refuses(t, x, equal(1, "ann"))
	refuses(t, x, part(2, "a", ""))
	x.Put(7, made("cn|Eve"))
	tellsOf(t, x, equal(2, "ann"), 3)
	x.Drop(3)
	tellsOf(t, x, equal(2, "ann"))
}

// P14.1: no schema, no index; two indexes of one schema know nothing of one another.
func TestNew(t *testing.T) {
	if index.New(nil) != nil {
		t.Error("New of no schema")
	}
	s := testSchema(t)
	x, other := index.New(s), index.New(s)
	if x == nil || other == nil || x == other {
		t.Fatal("New")
	}
	for _, q := range diceOf(s, 1).every(s) {
		if canBy(s, q) {
			tellsOf(t, x, q)
		} else {
			refuses(t, x, q)
		}
	}
	x.Put(1, made("name|Ann"))
	tellsOf(t, x, have(tName), 1)
	tellsOf(t, other, have(tName))
	other.Drop(1)
	tellsOf(t, x, have(tName), 1)
}

// P14.5.
func TestNilIndex(t *testing.T) {
	var x *index.Index
	for range 2 {
		x.Put(1, made("cn|Ann"))
		x.Drop(1)
		x.Drop(2)
		for _, q := range []api.Fetch{{}, have(tName), equal(tCn, "ann"), from(tName, ""), upTo(tName, "z"), part(tCn, "ann", ""), {Kind: -1}, {Kind: 9, Type: -1}} {
			if l, e := x.Fetch(q); e != api.ErrNil || len(l) != 0 {
				t.Errorf("Fetch(%s) is %v, %v", shown(q), l, e)
			}
			if x.Can(q) || x.Count(q) != 0 {
				t.Errorf("Can(%s) is %v, Count %d", shown(q), x.Can(q), x.Count(q))
			}
		}
	}
}

// P14.2: a number that is put anew has what it has now, and nothing of what it had.
func TestPutAnew(t *testing.T) {
	b := bothOf(t, testSchema(t))
	every := diceOf(b.s, 2).every(b.s)
	b.put(5, "cn|Ann", "age|5") // stands beside, and stays
	for _, attrs := range [][]string{
		{"cn|Ann|Bob|abc", "sn|Ann|bcd", "age|5|100", "objectClass|person|top"},
		{"cn|Ann|Bob|abc", "sn|Ann|bcd", "age|5|100", "objectClass|person|top"}, // the same again
		{"cn|Bob", "age|100"},                // fewer
		{"cn|bob", "age|100"},                // written otherwise, with the same key
		{"cn;x|abcx", "years|1000000"},       // others, under others
		{"name|abcx", "age|1000000"},         // the same values, one type higher
		{"cn", "age"},                        // descriptions without values
		{"tally|5", "bare|x"},                //
		{},                                   // nothing
		{"zz|Ann", "cn;|Ann", "photo|Ann"},   // nothing that an index is about
		{"name|a", "blob|a|b|", "flag|TRUE"}, // something again
	} {
		b.put(7, attrs...)
		b.check(every...)
	}
	b.drop(5)
	b.check(every...)
}

// P14.2: Drop of numbers that aren't there, and of one twice.
func TestDrop(t *testing.T) {
	b := bothOf(t, testSchema(t))
	every := diceOf(b.s, 3).every(b.s)
	b.drop(1) // of an index without entries
	b.put(1, "cn|Ann|abc", "age|5")
	b.put(2, "cn|ann", "age|100")
	b.put(3)
	for _, id := range []uint64{0, 9, top} {
		b.drop(id)
		b.check(every...)
	}
	for range 2 {
		b.drop(1)
		b.check(every...)
	}
	b.drop(3)
	b.check(every...)
	b.put(1, "cn|Ann")
	b.check(every...)
	b.drop(1)
	b.drop(2)
	b.check(every...)
	for _, q := range every {
		if b.it.Count(q) != 0 {
			t.Errorf("Count(%s) is %d", shown(q), b.it.Count(q))
		}
	}
}

// P14.2: any number, the least and the greatest too; they rise as numbers, whatever their order of coming.
func TestNumbers(t *testing.T) {
	b := bothOf(t, testSchema(t))
	ids := []uint64{top, 1 << 63, 0, 1<<63 - 1, 1, 10, 9, 1 << 32, top - 1}
	for _, id := range ids {
		b.put(id, "cn|Ann", "age|5", fmt.Sprint("sn|", id))
	}
	slices.Sort(ids)
	for _, q := range []api.Fetch{have(tName), equal(tCn, "ann"), from(tAge, ""), upTo(tAge, number("5")), part(tCn, "", "ann", "")} {
		tellsOf(t, b.it, q, ids...)
	}
	tellsOf(t, b.it, equal(tSn, "18446744073709551615"), top)
	b.drop(top)
	tellsOf(t, b.it, have(tName), ids[:len(ids)-1]...)
	b.drop(0)
	tellsOf(t, b.it, have(tName), ids[1:len(ids)-1]...)
	tellsOf(t, b.it, equal(tSn, "18446744073709551615"))
}

// P14.2: of an entry that is not tidy its covered values count as they stand: attributes twice and in no order, values twice, values that do not fit, descriptions that aren't known.
func TestEntriesThatAreNotTidy(t *testing.T) {
	b := bothOf(t, testSchema(t))
	untidy := made("commonName;X|b|Ann|b", "zz|q", "name|z", "cn;|r", "cn|c|", "SN;y;x|d|D", "age|x|01", "cn", "Age;x|5", "2.5.4.3;x;y|ANN", "|f", "cn|c", "blob|\xff|", "digits|x", "flag|true", "cn;x|\xff")
	if _, e, _ := entry.Tidy(b.s, untidy); e == api.OK {
		t.Fatal("it is tidy")
	}
	b.putEntry(4, untidy)
	b.put(6, "cn|Ann")
	b.check(diceOf(b.s, 4).every(b.s)...)
	tellsOf(t, b.it, equal(tCn, "ann"), 4, 6)
	tellsOf(t, b.it, equal(tCn, "c"), 4)
	tellsOf(t, b.it, equal(tCn, ""))
	tellsOf(t, b.it, equal(tName, "d"), 4)
	tellsOf(t, b.it, equal(tBlob, ""), 4)
	tellsOf(t, b.it, equal(tName, "q"))
	tellsOf(t, b.it, equal(tName, "r"))
	tellsOf(t, b.it, equal(tName, "f"))
	tellsOf(t, b.it, have(tDigits), 4) // a value that does not fit is a value
	tellsOf(t, b.it, from(tDigits, ""))
	tellsOf(t, b.it, equal(tFlag, "true"))
	tellsOf(t, b.it, equal(tAge, number("5")), 4)
	tellsOf(t, b.it, from(tAge, ""), 4)
	b.drop(4)
	b.check(diceOf(b.s, 4).every(b.s)...)
}

// The words of the chapter: what is covered is what entry.Values tells of the type's name.
func TestCoveredValuesAreThoseOfEntry(t *testing.T) {
	s := testSchema(t)
	d := diceOf(s, 5)
	for range 2000 {
		e := d.entry()
		for place := range types {
			var values []string
			for _, value := range entry.Values(s, e, s.Full(place).Names[0]) {
				values = append(values, value)
			}
			if want := coveredBy(s, e, place); !slices.Equal(values, want) {
				t.Fatalf("%q has of %d %q and %q", e, place, values, want)
			}
		}
	}
}

// P14.2, P14.4: scripts of Puts and Drops against a plain look at every entry that stands there.
func TestScripts(t *testing.T) {
	s := testSchema(t)
	for seed := range int64(25) {
		d := diceOf(s, seed)
		b := bothOf(t, s)
		ids := []uint64{0, 1, 2, 3, 7, 12, 1 << 40, top - 1, top}
		for step := range 120 {
			id := oneOf(d, ids)
			if grows := step/30%2 == 0; d.Intn(4) == 0 != grows {
				b.putEntry(id, d.entry())
			} else {
				b.drop(id)
			}
			for range 12 {
				b.check(d.fetch(s))
			}
		}
		b.check(d.every(s)...)
	}
}

// As many entries as a directory may have.
func TestManyEntries(t *testing.T) {
	s := testSchema(t)
	x := index.New(s)
	attrs := func(id int) []string {
		return []string{"objectClass|person", fmt.Sprintf("cn|Name %d|%d", id%1000, id), fmt.Sprintf("age|%d", id%100)}
	}
	for n := range api.MaxEntries {
		id := n * 40503 % api.MaxEntries // all of them, in another order
		x.Put(uint64(id), made(attrs(id)...))
	}
	every := func(from, step int) (out []uint64) {
		for id := from; id < api.MaxEntries; id += step {
			out = append(out, uint64(id))
		}
		return out
	}
	tellsOf(t, x, equal(tClass, "2.5.6.6"), every(0, 1)...)
	tellsOf(t, x, equal(tCn, "name 123"), every(123, 1000)...)
	tellsOf(t, x, part(tCn, "", "me 123", ""), every(123, 1000)...)
	tellsOf(t, x, equal(tAge, number("7")), every(7, 100)...)
	tellsOf(t, x, from(tAge, number("99")), every(99, 100)...)
	tellsOf(t, x, upTo(tAge, number("0")), every(0, 100)...)
	tellsOf(t, x, upTo(tAge, number("99")), every(0, 1)...)
	for id := range api.MaxEntries {
		if id%1000 != 123 {
			x.Drop(uint64(id))
		}
	}
	tellsOf(t, x, have(tClass), every(123, 1000)...)
	tellsOf(t, x, part(tCn, "na", ""), every(123, 1000)...)
	tellsOf(t, x, from(tAge, ""), every(123, 1000)...)
}

// As many types as there may be, all with all bits, one below the other as far as they may.
func TestManyTypes(t *testing.T) {
	s := schemaOf(t, wideSchema())
	x := index.New(s)
	low := 1 + api.MaxSups
	x.Put(3, made(fmt.Sprintf("t%d|Abc", low), fmt.Sprintf("t%d;x|abd", api.MaxTypes-1)))
	x.Put(4, made("t5|abc"))
	for place := 1; place < api.MaxTypes; place++ {
		var want []uint64
		if place <= low || place == api.MaxTypes-1 {
			want = append(want, 3)
		}
		if place <= 5 {
			want = append(want, 4)
		}
		tellsOf(t, x, have(place), want...)
		tellsOf(t, x, from(place, ""), want...)
		tellsOf(t, x, part(place, "ab", ""), want...)
		if place != api.MaxTypes-1 {
			tellsOf(t, x, equal(place, "abc"), want...)
		}
	}
	tellsOf(t, x, equal(api.MaxTypes-1, "abc"))
	tellsOf(t, x, equal(api.MaxTypes-1, "abd"), 3)
	refuses(t, x, have(api.MaxTypes))
}

// wideSchema has objectClass, then a chain of as many types as may lie above one another, then types that stand alone.
func wideSchema() api.Schema {
	plain := api.Schema{Types: plainSchema().Types[:1]}
	for place := 1; place < api.MaxTypes; place++ {
		one := api.Type{Oid: fmt.Sprintf("1.%d", place), Names: []string{fmt.Sprintf("t%d", place)}, Equal: api.RuleFold, Order: api.RuleFoldOrder, Part: api.RuleFoldPart, Index: all}
		if 1 < place && place <= 1+api.MaxSups {
			one.Sup = fmt.Sprintf("t%d", place-1)
		}
		plain.Types = append(plain.Types, one)
	}
	return plain
}

// A value at the bound has a key; one past it has none, and is a value still.
func TestLongValues(t *testing.T) {
	b := bothOf(t, testSchema(t))
	long := strings.Repeat("a", api.MaxText)
	b.put(1, "name|"+long, "cn|b")
	b.put(2, "name|"+long+"a")
	b.check(have(tName), equal(tName, long), equal(tName, long+"a"), from(tName, long), upTo(tName, long), part(tName, "aa", "aaaa", ""), part(tName, long, ""), part(tName, long, "a"))
	tellsOf(t, b.it, have(tName), 1, 2)
	tellsOf(t, b.it, upTo(tName, "b"), 1)
	tellsOf(t, b.it, equal(tName, long), 1)
	tellsOf(t, b.it, part(tName, "", "aaa", ""), 1)
	b.put(2, "name|"+long)
	tellsOf(t, b.it, equal(tName, long), 1, 2)
}

// As many values as there may be, and more.
func TestManyValues(t *testing.T) {
	b := bothOf(t, testSchema(t))
	e := made("cn", "age;x", "name")
	for n := range 2*api.MaxValues + 1 {
		for at := range e.Attrs {
			e.Attrs[at].Values = append(e.Attrs[at].Values, fmt.Sprint(n/2)) // each twice
		}
	}
	b.putEntry(1, e)
	b.put(2, "cn|77")
	b.check(have(tName), equal(tCn, "4096"), equal(tCn, "4097"), equal(tCn, "77"), from(tAge, number("4096")), from(tAge, number("4097")), part(tCn, "7", "7"), part(tName, "4", "09", "6"))
	tellsOf(t, b.it, equal(tName, "77"), 1, 2)
	b.drop(1)
	tellsOf(t, b.it, equal(tName, "77"), 2)
	tellsOf(t, b.it, have(tAge))
}
