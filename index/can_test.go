package index_test

import (
	"math"
	"strings"
	"testing"

	"roster/api"
	"roster/index"
	"roster/schema"
)

// P14.3: of each type just the Kinds can be asked whose bit its own Index has.
func TestCanByBits(t *testing.T) {
	s := testSchema(t)
	x := index.New(s)
	for _, full := range []bool{false, true} {
		for place, one := range plainSchema().Types {
			for bit, fetches := range map[uint8][]api.Fetch{
				api.IxHave:  {have(place)},
				api.IxEqual: {equal(place, "ann"), equal(place, "")},
				api.IxOrder: {from(place, "ann"), from(place, ""), upTo(place, "ann"), upTo(place, "")},
				api.IxPart:  {part(place, "ann", ""), part(place, "", "abc", "")},
			} {
				for _, q := range fetches {
					if can := one.Index&bit != 0; x.Can(q) != can {
						t.Errorf("Can(%s) is %v", shown(q), !can)
					} else if l, e := x.Fetch(q); can != (e == api.OK) || !can && (e != api.ErrArg || len(l) > 0 || x.Count(q) != 0) {
						t.Errorf("Fetch(%s) is %v, %v", shown(q), l, e)
					}
				}
			}
		}
		if !full { // whether anything stands there makes no difference
			x.Put(1, made("objectClass|person", "cn|Ann", "photo|a", "still|Ann", "flag|TRUE", "tally|5", "bare|a"))
		}
	}
}

// P14.3: its own Index counts, not that of a type above or below it.
func TestCanByItsOwnIndex(t *testing.T) {
	x := index.New(testSchema(t))
	x.Put(1, made("nick|Ann", "cn|Ann", "name|Ann", "years|5"))
	for _, q := range []api.Fetch{have(tNick), equal(tNick, "ann"), from(tNick, ""), upTo(tNick, "z"), part(tNick, "ann", ""), have(tCn), from(tCn, ""), upTo(tCn, "z"), have(tYears), equal(tYears, number("5"))} {
		refuses(t, x, q)
	}
	for _, q := range []api.Fetch{equal(tCn, "ann"), part(tCn, "ann", ""), have(tName), equal(tName, "ann"), from(tName, ""), upTo(tName, "z"), part(tName, "ann", ""), from(tYears, ""), have(tAge)} {
		tellsOf(t, x, q, 1)
	}
	// A type with all rules and no bits, one without rules, and one with rules of some kinds alone.
	for _, place := range []int{tStill, tPhoto} {
		for _, q := range []api.Fetch{have(place), equal(place, ""), from(place, ""), upTo(place, ""), part(place, "abc", "")} {
			refuses(t, x, q)
		}
	}
	for _, q := range []api.Fetch{equal(tTally, ""), from(tTally, ""), upTo(tTally, ""), part(tTally, "123", ""), part(tAge, "123", ""), from(tPhone, ""), upTo(tPhone, ""), from(tClass, ""), part(tClass, "per", "")} {
		refuses(t, x, q)
	}
}

// A bit whose rule is missing is no schema's: an index need not provide for it.
func TestBitsHaveTheirRules(t *testing.T) {
	for _, bit := range []uint8{api.IxEqual, api.IxOrder, api.IxPart} {
		plain := plainSchema()
		plain.Types[tBare].Index = bit
		if s, e, at := schema.New(plain); s != nil || e != api.ErrRule || at != tBare {
			t.Errorf("%d: %v at %d", bit, e, at)
		}
	}
}

// P14.3: Types that are no places, and Kinds that are none.
func TestCanOfWrongNumbers(t *testing.T) {
	x := index.New(testSchema(t))
	x.Put(1, made("name|Ann", "age|5"))
	for _, place := range []int{-1, types, types + 1, math.MinInt, math.MaxInt, -types, 1 << 32, api.MaxTypes} {
		for _, q := range []api.Fetch{have(place), equal(place, "ann"), from(place, ""), upTo(place, "z"), part(place, "ann", ""), {Kind: 5, Type: place}, {Kind: -1, Type: place}} {
			refuses(t, x, q)
		}
	}
	for _, kind := range []int8{5, 6, -1, -2, math.MaxInt8, math.MinInt8} {
		for place := range types {
			refuses(t, x, api.Fetch{Kind: kind, Type: place, Key: "ann", Pieces: []string{"ann", ""}})
		}
	}
	// All numbers that a Kind may be: five are Kinds.
	for kind := math.MinInt8; kind <= math.MaxInt8; kind++ {
		q := api.Fetch{Kind: int8(kind), Type: tName, Pieces: []string{"ann", ""}}
		if can := 0 <= kind && kind <= 4; x.Can(q) != can {
			t.Errorf("Can of the Kind %d is %v", kind, !can)
		}
	}
}

// P14.3: GetPart needs two Pieces at least that ask a gram.
func TestCanOfPieces(t *testing.T) {
	b := bothOf(t, testSchema(t))
	b.put(1, "name|Ann")
	b.put(2, "name|abcd")
	for _, c := range []struct {
		can    bool
		pieces []string
	}{
		{false, nil}, {false, []string{}}, {false, []string{"ann"}}, {false, []string{""}}, {false, []string{strings.Repeat("ann", 100)}},
		{false, []string{"", ""}}, {false, []string{"a", ""}}, {false, []string{"", "a"}}, {false, []string{"a", "b"}},
		{true, []string{"an", ""}}, {true, []string{"", "nn"}}, {true, []string{"a", "nn"}}, {true, []string{"an", "n"}},
		{false, []string{"", "", ""}}, {false, []string{"", "nn", ""}}, {false, []string{"a", "nn", "n"}}, {false, []string{"a", "", "b", "n", "n"}},
		{true, []string{"", "ann", ""}}, {true, []string{"", "", "ann", "", ""}}, {true, []string{"a", "nn", "nn"}}, {true, []string{"", "an", "nn", "abc", ""}},
	} {
		q := part(tName, c.pieces...)
		if b.it.Can(q) != c.can || canBy(b.s, q) != c.can {
			t.Errorf("Can(%s) is %v", shown(q), !c.can)
		}
		b.check(q)
		refuses(t, b.it, part(tAge, c.pieces...)) // without the bit
	}
}

// P14.3: fields that the Kind does not use count for nothing.
func TestFieldsThatAreNotUsed(t *testing.T) {
	x := index.New(testSchema(t))
	x.Put(1, made("name|Ann"))
	x.Put(2, made("name|Bob"))
	for _, pieces := range [][]string{nil, {"ann"}, {"a", ""}, {"xyz", "xyz"}} {
		for _, key := range []string{"", "ann", "zzz", "\xff"} {
			tellsOf(t, x, api.Fetch{Kind: api.GetHave, Type: tName, Key: key, Pieces: pieces}, 1, 2)
			tellsOf(t, x, api.Fetch{Kind: api.GetPart, Type: tName, Key: key, Pieces: []string{"an", ""}}, 1)
		}
		tellsOf(t, x, api.Fetch{Kind: api.GetEqual, Type: tName, Key: "ann", Pieces: pieces}, 1)
		tellsOf(t, x, api.Fetch{Kind: api.GetFrom, Type: tName, Key: "b", Pieces: pieces}, 2)
		tellsOf(t, x, api.Fetch{Kind: api.GetUpTo, Type: tName, Key: "b", Pieces: pieces}, 1)
	}
}
