package cost_test

import (
	"strings"
	"testing"

	"roster/api"
	"roster/cost"
	"roster/filter"
	"roster/match"
	"roster/schema"
)

func checkAsks(t *testing.T, s *schema.Schema, f api.Filter, want api.Fetch, exact bool) {
	t.Helper()
	q, is, ok := cost.Asks(s, f)
	if !ok || is != exact || !isSameFetch(q, want) {
		t.Errorf("Asks(%s) is %s, %v, %v; want %s, %v", shownFilter(f), shownFetch(q), is, ok, shownFetch(want), exact)
	}
}

func checkAsksNothing(t *testing.T, s *schema.Schema, f api.Filter) {
	t.Helper()
	q, exact, ok := cost.Asks(s, f)
	if ok || exact || !isSameFetch(q, api.Fetch{}) {
		t.Errorf("Asks(%s) is %s, %v, %v; want nothing", shownFilter(f), shownFetch(q), exact, ok)
	}
}

// number is the key of a number from 0 on of few digits.
func number(digits string) string { return "\x70\x00\x00" + string(rune(len(digits))) + digits }

// An item of each kind, with and without options, by whichever name of its type.
func TestAsksKinds(t *testing.T) {
	s := testSchema(t)
	for _, x := range []struct {
		f    api.Filter // its Desc's type
		want api.Fetch
	}{
		{have("cn"), api.Fetch{Kind: api.GetHave, Type: tCn}},
		{have("photo"), api.Fetch{Kind: api.GetHave, Type: tPhoto}},
		{have("bare"), api.Fetch{Kind: api.GetHave, Type: tBare}},
		{equal("cn", " Two  Words "), api.Fetch{Kind: api.GetEqual, Type: tCn, Key: "two words"}},
		{equal("name", "Ann"), api.Fetch{Kind: api.GetEqual, Type: tName, Key: "ann"}},
		{equal("sn", "Ann"), api.Fetch{Kind: api.GetEqual, Type: tSn, Key: "Ann"}},
		{equal("years", "42"), api.Fetch{Kind: api.GetEqual, Type: tYears, Key: number("42")}},
		{equal("blob", ""), api.Fetch{Kind: api.GetEqual, Type: tBlob}},
		{equal("flag", "TRUE"), api.Fetch{Kind: api.GetEqual, Type: tFlag, Key: "TRUE"}},
		{equal("seeAlso", "cn=A"), api.Fetch{Kind: api.GetEqual, Type: tSeeAlso, Key: "2=1:a;"}},
		{equal("objectClass", "human"), api.Fetch{Kind: api.GetEqual, Type: tClass, Key: "2.5.6.6"}},
		{equal("mixed", "Ann"), api.Fetch{Kind: api.GetEqual, Type: tMixed, Key: "Ann"}},
		{item(api.FMore, "mixed", "Ann"), api.Fetch{Kind: api.GetFrom, Type: tMixed, Key: "ann"}},
		{item(api.FLess, "mixed", "Ann"), api.Fetch{Kind: api.GetUpTo, Type: tMixed, Key: "ann"}},
		{item(api.FMore, "sn", "Ann"), api.Fetch{Kind: api.GetFrom, Type: tSn, Key: "Ann"}},
		{item(api.FLess, "cn", "Ann"), api.Fetch{Kind: api.GetUpTo, Type: tCn, Key: "ann"}},
		{item(api.FMore, "years", "7"), api.Fetch{Kind: api.GetFrom, Type: tYears, Key: number("7")}},
		{item(api.FLike, "age", "7"), api.Fetch{Kind: api.GetEqual, Type: tAge, Key: number("7")}},
		{item(api.FLike, "objectClass", "CN"), api.Fetch{Kind: api.GetEqual, Type: tClass, Key: "2.5.4.3"}},
		{item(api.FLike, "phone", "1 2-A"), api.Fetch{Kind: api.GetEqual, Type: tPhone, Key: "12a"}},
		{item(api.FLike, "digits", "1 2"), api.Fetch{Kind: api.GetEqual, Type: tDigits, Key: "12"}},
		{item(api.FLike, "moment", "20240229235959Z"), api.Fetch{Kind: api.GetEqual, Type: tMoment, Key: "20240229235959"}},
		{item(api.FLike, "seeAlso", "cn=A"), api.Fetch{Kind: api.GetEqual, Type: tSeeAlso, Key: "2=1:a;"}},
		{ruled("cn", "", "Ann"), api.Fetch{Kind: api.GetEqual, Type: tCn, Key: "ann"}},
		{ruled("cn", "caseIgnoreMatch", "Ann"), api.Fetch{Kind: api.GetEqual, Type: tCn, Key: "ann"}},
		{ruled("cn", "CASEIGNOREMATCH", "Ann"), api.Fetch{Kind: api.GetEqual, Type: tCn, Key: "ann"}},
		{ruled("cn", "2.5.13.2", "Ann"), api.Fetch{Kind: api.GetEqual, Type: tCn, Key: "ann"}},
		{ruled("sn", "caseExactMatch", "Ann"), api.Fetch{Kind: api.GetEqual, Type: tSn, Key: "Ann"}},
		{ruled("age", "integerMatch", "7"), api.Fetch{Kind: api.GetEqual, Type: tAge, Key: number("7")}},
	} {
		full := s.Full(x.want.Type)
		for _, word := range append(full.Names, full.Oid, strings.ToUpper(full.Names[0])) {
			x.f.Desc = word
			checkAsks(t, s, x.f, x.want, true)
			for _, options := range []string{";x", ";x;x", ";lang-en;x;1"} {
				x.f.Desc = word + options
				checkAsks(t, s, x.f, x.want, false)
			}
		}
	}
}

// Pieces are never exact, with options or without; each is as its place makes it.
func TestAsksPieces(t *testing.T) {
	s := testSchema(t)
	for _, x := range []struct {
		desc, text string
		place      int
		want       string // parted by |
	}{
		{"cn", "A*", tCn, "a|"}, {"cn", "*A", tCn, "|a"}, {"cn", "*A*", tCn, "|a|"}, {"cn", "A*b C*D", tCn, "a|b c|d"}, {"cn", " A * B * C ", tCn, "a | b | c"}, {"cn", "  A*  B *C  ", tCn, "a| b |c"},
		{"cn", " * * ", tCn, "| |"}, {"name", "A*b*C*d*E", tName, "a|b|c|d|e"}, {"sn", "A*B*C", tSn, "A|B|C"}, {"mixed", "A*B*C", tMixed, "a|b|c"}, {"surname", "A*B", tSn, "A|B"},
		{"phone", "+1 2*-*( A", tPhone, "+12||(a"}, {"digits", "1 2* *3", tDigits, "12||3"}, {"cn", "A*A*A", tCn, "a|a|a"}, {"cn", "é*É*x", tCn, "é|É|x"},
	} {
		want := api.Fetch{Kind: api.GetPart, Type: x.place, Pieces: strings.Split(x.want, "|")}
		checkAsks(t, s, pieces(x.desc, x.text), want, false)
		checkAsks(t, s, pieces(x.desc+";x", x.text), want, false)
	}
	long := strings.Repeat("X", api.MaxText)
	small := strings.ToLower(long)
	checkAsks(t, s, pieces("cn", long+"*"+long+"*"+long), api.Fetch{Kind: api.GetPart, Type: tCn, Pieces: []string{small, small, small}}, false)
}

// FLike of texts and FRule by another rule, with Dn or without a Desc ask nothing, with options or without.
func TestAsksNothing(t *testing.T) {
	s := testSchema(t)
	for _, f := range []api.Filter{
		item(api.FLike, "cn", "Ann"), item(api.FLike, "sn", "Ann"), item(api.FLike, "cn;x", "Ann"), item(api.FLike, "bare", "Ann"), item(api.FLike, "name", "Ann"),
		ruled("cn", "caseExactMatch", "Ann"), ruled("cn;x", "caseExactMatch", "Ann"), ruled("sn", "caseIgnoreMatch", "Ann"), ruled("bare", "caseIgnoreMatch", "Ann"), ruled("photo", "octetStringMatch", "x"), ruled("tally", "integerMatch", "7"), ruled("mixed", "caseIgnoreMatch", "x"),
		ruledDn("cn", "", "Ann"), ruledDn("cn", "caseIgnoreMatch", "Ann"), ruledDn("cn;x", "", "Ann"), ruledDn("age", "integerMatch", "7"), ruledDn("cn", "caseExactMatch", "Ann"),
		ruled("", "caseIgnoreMatch", "Ann"), ruledDn("", "caseIgnoreMatch", "Ann"), ruled("", "integerMatch", "7"), ruled("", "objectIdentifierMatch", "cn"), ruledDn("", "distinguishedNameMatch", "cn=a"),
	} {
		if !filter.Known(s, f) {
			t.Errorf("%s is not known", shownFilter(f))
		}
		checkAsksNothing(t, s, f)
	}
}

// No item, filters that may not be, items that are not known, no schema.
func TestAsksRefused(t *testing.T) {
	s := testSchema(t)
	for _, f := range []api.Filter{and(have("cn")), or(have("cn"), have("cn")), not(have("cn")), not(not(equal("cn", "Ann"))), and(equal("cn", "Ann"), equal("cn", "Bob"))} {
		checkAsksNothing(t, s, f)
	}
	for _, filters := range refusedFilters() {
		for _, f := range filters {
			checkAsksNothing(t, s, f)
			checkAsksNothing(t, nil, f)
		}
	}
	for _, f := range voids() {
		if filter.Known(s, f) || !takes(f) {
			t.Errorf("%s is known, or may not be", shownFilter(f))
		}
		checkAsksNothing(t, s, f)
		checkAsksNothing(t, s, not(f))
	}
	for _, f := range []api.Filter{have("cn"), equal("cn", "Ann"), pieces("cn", "a*"), item(api.FMore, "age", "7"), item(api.FLike, "age", "7"), ruled("cn", "", "Ann"), ruled("", "caseIgnoreMatch", "Ann"), {}} {
		checkAsksNothing(t, nil, f)
	}
}

// longSchema has a class whose Oid has MaxText bytes: so names that speak of it in few bytes have long keys.
func longSchema(t *testing.T) *schema.Schema {
	return schemaOf(t, api.Schema{
		Types: []api.Type{
			{Oid: "2.5.4.0", Names: []string{"objectClass", "o"}, Syntax: api.SynOid, Equal: api.RuleOid},
			{Oid: "1.1", Names: []string{"cn"}, Equal: api.RuleFold},
			{Oid: "1.2", Names: []string{"seeAlso"}, Syntax: api.SynName, Equal: api.RuleName},
		},
		Classes: []api.Class{{Oid: "1." + strings.Repeat("7", api.MaxText-2), Names: []string{"long"}}},
	})
}

// longName is a name whose key has just so many bytes more than 8 MaxText.
func longName(t *testing.T, s *schema.Schema, more int) string {
	t.Helper()
	seven := strings.Repeat("o=long,", 7)
	name := seven + "cn=" + strings.Repeat("x", 65464+more)
	if key, has := match.Key(s, api.RuleName, name); !has || len(key) != 8*api.MaxText+more {
		t.Fatalf("the key has %d bytes", len(key))
	}
	return name
}

// A key of 8 MaxText bytes, and one more: such an item is known, but asks nothing.
func TestAsksLongKeys(t *testing.T) {
	s := longSchema(t)
	yes := func(api.Fetch) bool { return true }
	for more := -1; more <= 1; more++ {
		name := longName(t, s, more)
		key, _ := match.Key(s, api.RuleName, name)
		fetch := api.Fetch{Kind: api.GetEqual, Type: 2, Key: key}
		for _, f := range []api.Filter{equal("seeAlso", name), item(api.FLike, "seeAlso", name), ruled("seeAlso", "", name), ruled("seeAlso", "distinguishedNameMatch", name)} {
			if !filter.Known(s, f) {
				t.Fatalf("%s is not known", shownFilter(f))
			}
			want := api.Plan{How: api.PlFetch, Fetch: fetch}
			if more > 0 {
				checkAsksNothing(t, s, f)
				want = test(f, all)
			} else {
				checkAsks(t, s, f, fetch, true)
			}
			checkPlan(t, model{s, yes, nil, 9}, f, want)
			checkCheck(t, want, api.OK, 0)
		}
	}
}

// A key that is long because of the class's Oid alone.
func TestAsksLongOid(t *testing.T) {
	s := longSchema(t)
	checkAsks(t, s, equal("o", "LONG"), api.Fetch{Kind: api.GetEqual, Type: 0, Key: "1." + strings.Repeat("7", api.MaxText-2)}, true)
}

// Items and schemas by chance, held against the table.
func TestAsksRandom(t *testing.T) {
	d := diceOf(1)
	var asks, exacts, nothings int
	for range 3000 {
		s := d.schema(t)
		for range 30 {
			f := d.item(s)
			q, exact, ok := modelAsks(s, f)
			if !ok {
				nothings++
				checkAsksNothing(t, s, f)
				continue
			}
			asks++
			if exact {
				exacts++
			}
			checkAsks(t, s, f, q, exact)
		}
		if t.Failed() {
			return
		}
	}
	if asks < 10000 || exacts < 10000 || asks-exacts < 5000 || nothings < 10000 {
		t.Errorf("%d ask, %d of them exactly; %d do not", asks, exacts, nothings)
	}
}
