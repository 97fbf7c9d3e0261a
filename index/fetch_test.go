package index_test

import (
	"slices"
	"strings"
	"testing"

	"roster/api"
	"roster/gram"
)

// P14.4: values of types below the asked one, and with options, are covered; those of types above and beside it are not.
func TestTypesBelowAndOptions(t *testing.T) {
	b := bothOf(t, testSchema(t))
	b.put(1, "name|Ann")
	b.put(2, "cn|Ann")
	b.put(3, "cn;x;y|Ann")
	b.put(4, "nick|ann")
	b.put(5, "sn;lang-en|ANN")
	b.put(6, "2.5.4.3;X|aNN")
	b.put(7, "still|Ann", "bare|Ann")
	b.check(diceOf(b.s, 1).every(b.s)...)
	for _, q := range []api.Fetch{have(tName), equal(tName, "ann"), from(tName, "ann"), upTo(tName, "ann"), part(tName, "an", "n"), part(tName, "", "ann", "")} {
		tellsOf(t, b.it, q, 1, 2, 3, 4, 5, 6)
	}
	tellsOf(t, b.it, equal(tCn, "ann"), 2, 3, 4, 6)
	tellsOf(t, b.it, part(tCn, "an", ""), 2, 3, 4, 6)
	tellsOf(t, b.it, have(tSn), 5)
	tellsOf(t, b.it, have(tBare), 7)
}

// P14.4: the rules are those of the asked type, for values of types below too.
func TestRulesOfTheAskedType(t *testing.T) {
	b := bothOf(t, testSchema(t))
	b.put(1, "sn|Two", "mixed|Two")
	b.put(2, "sn|two", "mixed|two")
	tellsOf(t, b.it, equal(tName, "two"), 1, 2)
	tellsOf(t, b.it, equal(tName, "Two"))
	tellsOf(t, b.it, equal(tSn, "two"), 2)
	tellsOf(t, b.it, equal(tSn, "Two"), 1)
	tellsOf(t, b.it, from(tSn, "a"), 2)
	tellsOf(t, b.it, from(tName, "a"), 1, 2)
	tellsOf(t, b.it, upTo(tSn, "Z"), 1)
	tellsOf(t, b.it, part(tSn, "Tw", ""), 1)
	tellsOf(t, b.it, part(tName, "tw", ""), 1, 2)
	tellsOf(t, b.it, part(tName, "Tw", ""))
	// Each Kind goes by the rule that is its own.
	tellsOf(t, b.it, equal(tMixed, "Two"), 1)
	tellsOf(t, b.it, equal(tMixed, "two"), 2)
	tellsOf(t, b.it, from(tMixed, "two"), 1, 2)
	tellsOf(t, b.it, upTo(tMixed, "two"), 1, 2)
	tellsOf(t, b.it, upTo(tMixed, "Two"))
	tellsOf(t, b.it, part(tMixed, "two", ""), 1, 2)
	tellsOf(t, b.it, part(tMixed, "Two", ""))
}

// P14.4: two values of one entry with one key tell it once, and go with it.
func TestTwoValuesWithOneKey(t *testing.T) {
	b := bothOf(t, testSchema(t))
	fetches := []api.Fetch{have(tName), equal(tName, "ann"), equal(tCn, "ann"), from(tName, "a"), upTo(tName, "b"), part(tName, "ann", ""), part(tCn, "ann", "")}
	b.put(1, "cn|Ann|ann", "cn;x| ANN", "name|ann")
	b.put(2, "cn|ann")
	b.check(fetches...)
	b.put(1, "cn|Ann")
	b.check(fetches...)
	b.put(1, "cn|Ann|ann|Ann")
	b.check(fetches...)
	b.put(1, "cn|Bob")
	b.check(fetches...)
	tellsOf(t, b.it, equal(tCn, "ann"), 2)
	b.put(1, "cn|Ann|ann")
	b.drop(1)
	b.check(fetches...)
	tellsOf(t, b.it, part(tCn, "ann", ""), 2)
}

// P14.4: one entry with several keys that are asked for is told once.
func TestSeveralKeysOfOneEntry(t *testing.T) {
	b := bothOf(t, testSchema(t))
	b.put(9, "age|1|2|3|40", "name|a|b|c")
	b.put(2, "age|3", "name|b")
	tellsOf(t, b.it, from(tAge, number("2")), 2, 9)
	tellsOf(t, b.it, upTo(tAge, number("3")), 2, 9)
	tellsOf(t, b.it, upTo(tAge, number("2")), 9)
	tellsOf(t, b.it, from(tName, ""), 2, 9)
	tellsOf(t, b.it, from(tAge, number("4")), 9)
}

// P14.4: a value without a key under a rule counts for nothing there, but is a value.
func TestValuesWithoutAKey(t *testing.T) {
	b := bothOf(t, testSchema(t))
	b.put(1, "age|x", "digits|a", "name|", "seeAlso|=", "objectClass|a b")
	b.put(2, "age|x|5", "digits|a|1 2", "name||z", "seeAlso|=|cn=a", "objectClass|a b|top")
	for _, place := range []int{tAge, tDigits, tName, tSeeAlso, tClass} {
		tellsOf(t, b.it, have(place), 1, 2)
	}
	for _, place := range []int{tAge, tDigits, tName} {
		tellsOf(t, b.it, from(place, ""), 2)
		tellsOf(t, b.it, upTo(place, "\xff"), 2)
	}
	for _, place := range []int{tAge, tDigits, tName, tSeeAlso, tClass} {
		for _, key := range []string{"x", "a", "", "=", "a b"} {
			tellsOf(t, b.it, equal(place, key))
		}
	}
	tellsOf(t, b.it, equal(tClass, "2.5.6.0"), 2)
	tellsOf(t, b.it, equal(tDigits, "12"), 2)
	b.check(diceOf(b.s, 2).every(b.s)...)
	// A value without bytes may be a key: then it is asked for as any other one.
	b.put(3, "blob|")
	b.put(4, "blob|a")
	tellsOf(t, b.it, equal(tBlob, ""), 3)
	tellsOf(t, b.it, upTo(tBlob, ""), 3)
	tellsOf(t, b.it, from(tBlob, ""), 3, 4)
	tellsOf(t, b.it, have(tBlob), 3, 4)
}

// P14.4: Keys that no value could have may be asked.
func TestKeysThatNoValueCouldHave(t *testing.T) {
	b := bothOf(t, testSchema(t))
	b.put(1, "name|Ann", "age|5", "digits|1 2", "flag|TRUE", "objectClass|person", "seeAlso|cn=a")
	long := strings.Repeat("a", 9*api.MaxText)
	for _, key := range []string{"", "Ann", " ann", "ann ", "\xff", "\x00", "12 ", "5", "person", "true", "cn=a", long} {
		for _, place := range []int{tName, tCn, tAge, tDigits, tFlag, tClass, tSeeAlso} {
			tellsOf(t, b.it, equal(place, key))
		}
	}
	tellsOf(t, b.it, from(tName, "Ann"), 1)
	tellsOf(t, b.it, upTo(tName, "Ann"))
	tellsOf(t, b.it, from(tName, "ann "))
	tellsOf(t, b.it, upTo(tName, "ann "), 1)
	tellsOf(t, b.it, from(tName, long), 1)
	tellsOf(t, b.it, from(tAge, "5"), 1)
	tellsOf(t, b.it, upTo(tAge, long))
}

// P14.4: at a key that some value has, between two, ahead of all and behind all.
func TestFromAndUpTo(t *testing.T) {
	b := bothOf(t, testSchema(t))
	b.put(30, "name|b", "age|-20")
	b.put(20, "name|d", "age|5")
	b.put(10, "name|D", "age|100")
	b.put(40, "name|ff", "years|1000000")
	for _, c := range []struct {
		key        string
		from, upTo []uint64
	}{
		{"", []uint64{10, 20, 30, 40}, nil},
		{"a", []uint64{10, 20, 30, 40}, nil},
		{"b", []uint64{10, 20, 30, 40}, []uint64{30}},
		{"b\x00", []uint64{10, 20, 40}, []uint64{30}},
		{"c", []uint64{10, 20, 40}, []uint64{30}},
		{"d", []uint64{10, 20, 40}, []uint64{10, 20, 30}},
		{"da", []uint64{40}, []uint64{10, 20, 30}},
		{"f", []uint64{40}, []uint64{10, 20, 30}},
		{"ff", []uint64{40}, []uint64{10, 20, 30, 40}},
		{"fff", nil, []uint64{10, 20, 30, 40}},
		{"\xff", nil, []uint64{10, 20, 30, 40}},
	} {
		tellsOf(t, b.it, from(tName, c.key), c.from...)
		tellsOf(t, b.it, upTo(tName, c.key), c.upTo...)
	}
	// Numbers by what they are, not by how they are written.
	tellsOf(t, b.it, from(tAge, number("5")), 10, 20, 40)
	tellsOf(t, b.it, from(tAge, number("6")), 10, 40)
	tellsOf(t, b.it, upTo(tAge, number("99")), 20, 30)
	tellsOf(t, b.it, from(tAge, number("101")), 40)
	tellsOf(t, b.it, upTo(tAge, number("0")), 30)
	tellsOf(t, b.it, from(tYears, ""), 40)
	tellsOf(t, b.it, upTo(tYears, number("5")))
}

// P14.4: keys of rules that go by the schema.
func TestKeysByTheSchema(t *testing.T) {
	b := bothOf(t, testSchema(t))
	b.put(1, "objectClass|HUMAN", "seeAlso|CN=Ann,sn=B")
	b.put(2, "objectClass|2.5.6.6|cn", "seeAlso|2.5.4.3=ann,surname=B")
	b.put(3, "objectClass|nobody", "seeAlso|cn=ann,sn=b")
	b.put(4, "moment|20240229235959Z")
	b.put(5, "moment|20240301005959.00+0100")
	tellsOf(t, b.it, equal(tClass, "2.5.6.6"), 1, 2)
	tellsOf(t, b.it, equal(tClass, "2.5.4.3"), 2)
	tellsOf(t, b.it, equal(tClass, "nobody"), 3)
	tellsOf(t, b.it, equal(tClass, "person"))
	tellsOf(t, b.it, equal(tMoment, "20240229235959"), 4, 5)
	same := keysBy(b.s, b.plain[1], tSeeAlso, api.RuleName)
	tellsOf(t, b.it, equal(tSeeAlso, same[0]), 1, 2)
}

// P14.4: GetPart with two and more Pieces, empty ones first, last and between.
func TestPieces(t *testing.T) {
	b := bothOf(t, testSchema(t))
	b.put(1, "name|Barbara Jensen")
	b.put(2, "name|Barney")
	b.put(3, "cn|sen bar")
	b.put(4, "cn;x|xbarx", "sn|sen")
	b.put(5, "digits|12 345", "phone|+1 (2)34-5")
	b.put(6, "digits|345 12")
	for _, c := range []struct {
		place  int
		pieces []string
		want   []uint64
	}{
		{tName, []string{"bar", ""}, []uint64{1, 2}},
		{tName, []string{"", "bar"}, []uint64{3}},
		{tName, []string{"", "bar", ""}, []uint64{1, 2, 3, 4}},
		{tName, []string{"", "", "bar", "", ""}, []uint64{1, 2, 3, 4}},
		{tName, []string{"bar", "sen"}, []uint64{1}},
		{tName, []string{"bar", "bar", "sen"}, []uint64{1}},
		{tName, []string{"", "sen"}, []uint64{1, 4}},
		{tName, []string{"sen", ""}, []uint64{3, 4}},
		{tName, []string{"", "sen", ""}, []uint64{1, 3, 4}},
		{tName, []string{"", "sen", "bar", ""}, []uint64{1, 3, 4}}, // another order, several values
		{tName, []string{"barbara jensen", ""}, []uint64{1}},
		{tName, []string{"Bar", ""}, nil},
		{tName, []string{"", "xyz", ""}, nil},
		{tName, []string{"bar", "xyz", ""}, nil},
		{tCn, []string{"", "bar", ""}, []uint64{3, 4}},
		{tSn, []string{"", "sen", ""}, []uint64{4}},
		{tDigits, []string{"12", ""}, []uint64{5}},
		{tDigits, []string{"", "234", ""}, []uint64{5}},
		{tDigits, []string{"", "345", ""}, []uint64{5, 6}},
		{tPhone, []string{"+1", "345"}, []uint64{5}},
	} {
		tellsOf(t, b.it, part(c.place, c.pieces...), c.want...)
		b.check(part(c.place, c.pieces...))
	}
	for _, q := range []api.Fetch{part(tName), part(tName, "bar"), part(tName, "", "a"), part(tName, "b", "a", "r"), part(tName, "", "ba", "")} {
		refuses(t, b.it, q)
	}
}

// P14.4: each gram may be had by another value of the same entry, but not by one of another entry, nor by one that is gone.
func TestGramsOfSeveralValues(t *testing.T) {
	b := bothOf(t, testSchema(t))
	q := part(tName, "", "abcd", "")
	if len(gram.Asked(q.Pieces)) != 2 {
		t.Fatal("it asks other grams")
	}
	b.put(1, "cn|xabcx|xbcdx")
	b.put(2, "cn|xabcx")
	b.put(3, "cn;x|xabcx", "sn|xbcdx")
	b.put(4, "name|abcd")
	b.put(5, "cn|xbcdx", "still|xabcx")
	tellsOf(t, b.it, q, 1, 3, 4)
	tellsOf(t, b.it, part(tCn, "", "abcd", ""), 1)
	b.put(1, "cn|xbcdx")
	tellsOf(t, b.it, q, 3, 4)
	b.put(2, "cn|xabcx", "name|abx|bcd")
	tellsOf(t, b.it, q, 2, 3, 4)
	b.drop(3)
	tellsOf(t, b.it, q, 2, 4)
}

// P14.4: Count is how many, of all Kinds, of none, one and many; it takes no number twice.
func TestCount(t *testing.T) {
	b := bothOf(t, testSchema(t))
	for n := range uint64(50) {
		b.put(n*n, "name|abc|abcd", "age|5|7")
		for _, q := range []api.Fetch{have(tName), equal(tName, "abc"), from(tName, "abc"), upTo(tName, "abcd"), part(tName, "abc", ""), from(tAge, ""), upTo(tAge, number("7"))} {
			if got := b.it.Count(q); got != int(n)+1 {
				t.Fatalf("Count(%s) is %d; want %d", shown(q), got, n+1)
			}
		}
		for _, q := range []api.Fetch{have(tBare), equal(tName, "x"), from(tName, "x"), upTo(tName, "a"), part(tName, "xyz", ""), have(tPhoto), part(tName, "a")} {
			if got := b.it.Count(q); got != 0 {
				t.Fatalf("Count(%s) is %d", shown(q), got)
			}
		}
	}
}

// What is told rises, each number once.
func TestListsRise(t *testing.T) {
	s := testSchema(t)
	d := diceOf(s, 9)
	b := bothOf(t, s)
	for n := range uint64(300) {
		b.putEntry(n*7919%1009, d.entry())
	}
	told := 0
	for _, q := range d.every(s) {
		l, _ := b.it.Fetch(q)
		if !slices.IsSorted(l) || len(slices.Compact(slices.Clone(l))) != len(l) {
			t.Errorf("Fetch(%s) is %v", shown(q), l)
		}
		told += len(l)
	}
	if told < 10000 {
		t.Errorf("only %d were told", told)
	}
}
