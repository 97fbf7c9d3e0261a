package filter_test

import (
	"slices"
	"strings"
	"testing"

	"roster/api"
	"roster/filter"
	"roster/schema"
)

func checkSays(t *testing.T, s *schema.Schema, f api.Filter, r api.Record, want api.Truth) {
	t.Helper()
	if got := filter.Says(s, f, r); got != want {
		t.Errorf("%s says %d of %v; want %d", shown(f), got, r, want)
	}
}

// saysCase is a filter and what it says of a record that the test has.
type saysCase struct {
	f    api.Filter
	want api.Truth
}

func checkAllSay(t *testing.T, s *schema.Schema, r api.Record, cases []saysCase) {
	t.Helper()
	for _, x := range cases {
		checkSays(t, s, x.f, r, x.want)
	}
}

// chapterRecord is the examples' r.
func chapterRecord(at ...string) api.Record {
	return recordOf(append([]string{"cn|Ada", "cn;x|B", "age|5", "at"}, at...)...)
}

// The chapter's examples. (sn, ou and the like are beside what it has.)
func TestSaysExamples(t *testing.T) {
	s := testSchema(t)
	checkAllSay(t, s, chapterRecord(), []saysCase{
		{equal("cn", "ada"), api.Yes}, {equal("name", "b"), api.Yes}, {equal("cn;x", "ada"), api.No}, {equal("cn;y", "b"), api.No},
		{item(api.FMore, "age", "5"), api.Yes}, {item(api.FLess, "age", "4"), api.No}, {item(api.FMore, "age", "x"), api.Unknown}, {item(api.FMore, "cn", "a"), api.Unknown},
		{equal("photo", "1"), api.Unknown}, {have("photo"), api.No}, {have("zz"), api.Unknown},
		{not(equal("zz", "1")), api.Unknown}, {and(equal("zz", "1"), equal("cn", "x")), api.No}, {or(equal("zz", "1"), equal("cn", "ada")), api.Yes},
		{pieces("cn", "a*a"), api.Yes}, {pieces("cn", "*d*d*"), api.No}, {have("cn"), api.Yes},
		{rule("", "caseIgnoreMatch", "b"), api.Yes}, {rule("cn", "", "ADA"), api.Yes}, {rule("age", "caseIgnoreMatch", "5"), api.Unknown}, {rule("cn", "caseIgnoreSubstringsMatch", "a"), api.Unknown},
	})
	checkAllSay(t, s, chapterRecord("ou|x", "cn|q"), []saysCase{
		{ruleDn("ou", "", "x"), api.Yes}, {ruleDn("", "caseIgnoreMatch", "q"), api.Yes}, {rule("ou", "", "x"), api.No},
	})
}

// The examples 1 to 3 of the whole.
func TestSaysExamplesOfTheWhole(t *testing.T) {
	s := testSchema(t)
	first, second, third := recordOf("cn|A", "age|30"), recordOf("cn|b|Bob", "age|4"), recordOf("cn|c")
	for _, x := range []struct {
		f    api.Filter
		want [3]api.Truth
	}{
		{item(api.FMore, "age", "9"), [3]api.Truth{api.Yes, api.No, api.No}},
		{equal("cn", "BOB"), [3]api.Truth{api.No, api.Yes, api.No}},
		{equal("name", "bob"), [3]api.Truth{api.No, api.Yes, api.No}},
		{equal("zz", "1"), [3]api.Truth{api.Unknown, api.Unknown, api.Unknown}},
		{not(equal("zz", "1")), [3]api.Truth{api.Unknown, api.Unknown, api.Unknown}},
		{or(equal("zz", "1"), equal("cn", "bob")), [3]api.Truth{api.Unknown, api.Yes, api.Unknown}},
		{not(item(api.FMore, "age", "9")), [3]api.Truth{api.No, api.Yes, api.Yes}},
	} {
		for i, r := range []api.Record{first, second, third} {
			checkSays(t, s, x.f, r, x.want[i])
		}
	}
}

func TestSaysEqual(t *testing.T) {
	s := testSchema(t)
	r := recordOf("CN;X|Two  Words| lone ", "2.5.4.4|Smith", "age|-5|07|12", "objectClass|HUMAN|nobody", "seeAlso|CN=A", "blob|\x00\x01", "flag|TRUE", "phone|+49 30", "digits|1 2", "moment|20240301005959+0100", "bare|x")
	checkAllSay(t, s, r, []saysCase{
		{equal("cn", "TWO WORDS"), api.Yes}, {equal("name;x", " two words"), api.Yes}, {equal("commonName", "lone"), api.Yes}, {equal("cn", "two"), api.No}, {equal("cn;x;y", "lone"), api.No}, {equal("cn", ""), api.Unknown}, {equal("cn", "\xff"), api.Unknown},
		// An item goes by the rule of its own type, for the values of types below too.
		{equal("name", "SMITH"), api.Yes}, {equal("sn", "SMITH"), api.No}, {equal("sn", "Smith"), api.Yes}, {equal("surname;x", "Smith"), api.No},
		{equal("age", "-5"), api.Yes}, {equal("age", "12"), api.Yes}, {equal("age", "7"), api.No}, {equal("age", "07"), api.Unknown}, {equal("years", "12"), api.No},
		{equal("objectClass", "person"), api.Yes}, {equal("objectClass", "2.5.6.6"), api.Yes}, {equal("objectClass", "NOBODY"), api.Yes}, {equal("objectClass", "top"), api.No}, {equal("objectClass", "a b"), api.Unknown},
		{equal("seeAlso", "2.5.4.3=a"), api.Yes}, {equal("seeAlso", "cn=b"), api.No}, {equal("seeAlso", "zz=a"), api.Unknown}, {equal("seeAlso", "cn"), api.Unknown},
		{equal("blob", "\x00\x01"), api.Yes}, {equal("blob", "\x00"), api.No}, {equal("flag", "TRUE"), api.Yes}, {equal("flag", "FALSE"), api.No}, {equal("flag", "yes"), api.Unknown}, {equal("phone", "+4930"), api.Yes}, {equal("digits", "12"), api.Yes}, {equal("moment", "20240229235959Z"), api.Yes},
		// Without a rule for equality, or without a type.
		{equal("bare", "x"), api.Unknown}, {equal("tally", "1"), api.Unknown}, {equal("zz", "x"), api.Unknown}, {equal("9.9", "x"), api.Unknown}, {equal("cn;a;b;c;d;e;f;g;h;i", "lone"), api.Unknown},
	})
}

func TestSaysOrder(t *testing.T) {
	s := testSchema(t)
	r := recordOf("age|-5|12", "sn|Mill|a", "ou|m", "years;x|40")
	more := func(desc, value string) api.Filter { return item(api.FMore, desc, value) }
	less := func(desc, value string) api.Filter { return item(api.FLess, desc, value) }
	checkAllSay(t, s, r, []saysCase{
		{more("age", "12"), api.Yes}, {more("age", "41"), api.No}, {more("age", "40"), api.Yes}, {more("years", "13"), api.Yes}, {more("years;x", "41"), api.No}, {more("age;x", "0"), api.Yes}, {more("age;y", "0"), api.No},
		{less("age", "-5"), api.Yes}, {less("age", "-6"), api.No}, {less("age", "-4"), api.Yes}, {less("years", "39"), api.No}, {less("years", "40"), api.Yes},
		{more("sn", "b"), api.No}, {more("sn", "a"), api.Yes}, {less("sn", "Mill"), api.Yes}, {less("sn", "A"), api.No}, {more("ou", "M"), api.Yes}, {less("ou", "M"), api.Yes}, {more("ou", "N"), api.No}, {less("ou", "L"), api.No},
		{more("age", ""), api.Unknown}, {less("age", "1.5"), api.Unknown}, {more("cn", "a"), api.Unknown}, {less("name", "a"), api.Unknown}, {more("tally", "1"), api.Unknown}, {less("flag", "TRUE"), api.Unknown}, {more("zz", "1"), api.Unknown}, {less("zz", "1"), api.Unknown}, {less("sn", ""), api.Unknown},
		{more("digits", "1"), api.No}, {less("moment", "20240229235959Z"), api.No},
	})
}

func TestSaysHave(t *testing.T) {
	s := testSchema(t)
	// A value that has no key is one, too; a description without values has none.
	r := recordOf("cn;x|", "age|x", "photo", "zz|1", "ou;|1", "2.5.4.4;Y|a")
	checkAllSay(t, s, r, []saysCase{
		{have("cn"), api.Yes}, {have("name"), api.Yes}, {have("CN;X"), api.Yes}, {have("cn;y"), api.No}, {have("name;y"), api.Yes}, {have("name;x;y"), api.No}, {have("age"), api.Yes}, {have("years"), api.No}, {have("photo"), api.No}, {have("ou"), api.No}, {have("objectClass"), api.No}, {have("zz"), api.Unknown}, {have("1.99"), api.Unknown}, {have("tally"), api.No},
	})
}

func TestSaysPieces(t *testing.T) {
	s := testSchema(t)
	r := recordOf("cn|Barbara Jensen", "sn;x|Ny  Gaard", "phone|+1 555", "digits|12 34", "ou|abc")
	checkAllSay(t, s, r, []saysCase{
		{pieces("cn", "bar*b*a*SEN"), api.Yes}, {pieces("name", "BAR*"), api.Yes}, {pieces("cn", "bar*bar*"), api.Yes}, {pieces("cn", "bar*barb*"), api.No}, {pieces("cn", "*jen*bar*"), api.No}, {pieces("cn;x", "bar*"), api.No},
		{pieces("name", "ny g*"), api.Yes}, {pieces("sn", "ny*"), api.No}, {pieces("sn", "Ny G*"), api.Yes}, {pieces("sn;x", "*aard"), api.Yes}, {pieces("sn;y", "*aard"), api.No},
		{pieces("phone", "+1*5"), api.Yes}, {pieces("phone", "1*5"), api.No}, {pieces("digits", "1*23*4"), api.Yes}, {pieces("digits", "x*"), api.Unknown}, {pieces("digits", "*1*x*2"), api.Unknown}, {pieces("digits", "*x"), api.Unknown},
		{pieces("ou", "a*"), api.Unknown}, {pieces("age", "1*"), api.Unknown}, {pieces("photo", "1*"), api.Unknown}, {pieces("zz", "a*"), api.Unknown}, {pieces("cn", "\xff*"), api.Unknown},
	})
}

func TestSaysLike(t *testing.T) {
	s := testSchema(t)
	like := func(desc, value string) api.Filter { return item(api.FLike, desc, value) }
	r := recordOf("cn|Robert", "bare;x|Robert|12", "age|7", "objectClass|person", "flag|x", "tally|7", "sn|a  B")
	checkAllSay(t, s, r, []saysCase{
		{like("cn", "Rupert"), api.Yes}, {like("name", "RUPERT"), api.Yes}, {like("cn", "Rita"), api.No}, {like("cn;x", "Rupert"), api.No}, {like("sn", "A b"), api.Yes},
		// A text needs no rule.
		{like("bare", "Rupert"), api.Yes}, {like("bare;x", "12"), api.Yes}, {like("bare", "13"), api.No}, {like("bare", ""), api.Unknown}, {like("cn", "\xff"), api.Unknown},
		{like("age", "7"), api.Yes}, {like("age", "8"), api.No}, {like("age", "07"), api.Unknown}, {like("tally", "7"), api.Unknown}, {like("photo", "7"), api.Unknown}, {like("objectClass", "HUMAN"), api.Yes}, {like("bareOid", "person"), api.Unknown}, {like("bareName", "cn=a"), api.Unknown}, {like("seeAlso", "cn=a"), api.No}, {like("seeAlso", "zz=a"), api.Unknown},
		{like("flag", "TRUE"), api.No}, {like("flag", "x"), api.Unknown}, {like("zz", "a"), api.Unknown},
	})
}

func TestSaysRule(t *testing.T) {
	s := testSchema(t)
	r := recordOf("cn|Ada", "sn;x|Smith", "bare|Bare|", "age|5|x", "tally|6", "photo|P", "zz|zed", "cn;|odd", "objectClass|person")
	checkAllSay(t, s, r, []saysCase{
		// With a Desc, with and without a Rule, which may be another one than the type's.
		{rule("cn", "", "ada"), api.Yes}, {rule("cn", "caseExactMatch", "ada"), api.No}, {rule("cn", "2.5.13.5", "Ada"), api.Yes}, {rule("name", "CASEEXACTMATCH", "Smith"), api.Yes}, {rule("name", "", "SMITH"), api.Yes}, {rule("sn", "", "SMITH"), api.No}, {rule("sn", "caseIgnoreMatch", "SMITH"), api.Yes}, {rule("sn;x", "", "Smith"), api.Yes}, {rule("sn;y", "", "Smith"), api.No},
		{rule("bare", "caseIgnoreMatch", "BARE"), api.Yes}, {rule("bare", "", "Bare"), api.Unknown}, {rule("tally", "integerMatch", "6"), api.Yes}, {rule("tally", "", "6"), api.Unknown}, {rule("photo", "octetStringMatch", "P"), api.Yes}, {rule("photo", "", "P"), api.Unknown},
		// Without a Desc: of all types of the syntax.
		{rule("", "caseIgnoreMatch", "ADA"), api.Yes}, {rule("", "caseIgnoreMatch", "smith"), api.Yes}, {rule("", "caseExactMatch", "smith"), api.No}, {rule("", "2.5.13.5", "Bare"), api.Yes}, {rule("", "integerMatch", "6"), api.Yes}, {rule("", "integerMatch", "7"), api.No}, {rule("", "octetStringMatch", "P"), api.Yes}, {rule("", "octetStringMatch", "Ada"), api.No}, {rule("", "objectIdentifierMatch", "2.5.6.6"), api.Yes}, {rule("", "booleanMatch", "TRUE"), api.No},
		// What the schema does not know has no syntax.
		{rule("", "caseIgnoreMatch", "zed"), api.No}, {rule("", "caseIgnoreMatch", "odd"), api.No},
		// What is not known.
		{rule("zz", "", "a"), api.Unknown}, {rule("zz", "caseIgnoreMatch", "zed"), api.Unknown}, {rule("cn", "noMatch", "ada"), api.Unknown}, {rule("", "noMatch", "ada"), api.Unknown}, {rule("", "2.5.13.99", "ada"), api.Unknown}, {rule("", "1.2", "ada"), api.Unknown},
		{rule("cn", "integerMatch", "5"), api.Unknown}, {rule("age", "octetStringMatch", "5"), api.Unknown}, {rule("cn", "caseIgnoreMatch", ""), api.Unknown}, {rule("age", "", "x"), api.Unknown}, {rule("", "integerMatch", "x"), api.Unknown}, {rule("", "booleanMatch", "true"), api.Unknown},
		// A rule that is none for equality.
		{rule("sn", "caseExactOrderingMatch", "Smith"), api.Unknown}, {rule("", "caseIgnoreOrderingMatch", "ada"), api.Unknown}, {rule("", "caseIgnoreSubstringsMatch", "ada"), api.Unknown}, {rule("age", "integerOrderingMatch", "5"), api.Unknown}, {rule("", "2.5.13.3", "ada"), api.Unknown}, {rule("", "2.5.13.4", "ada"), api.Unknown},
	})
}

// Every rule, with and without a Desc of its syntax.
func TestSaysEveryRule(t *testing.T) {
	s := testSchema(t)
	values := []string{api.SynText: "a", api.SynDigits: "1", api.SynPhone: "1", api.SynNumber: "1", api.SynFlag: "TRUE", api.SynTime: "20240229235959Z", api.SynBytes: "1", api.SynName: "cn=a", api.SynOid: "cn"}
	equals := []int8{api.RuleFold, api.RuleExact, api.RuleDigits, api.RulePhone, api.RuleNumber, api.RuleFlag, api.RuleTime, api.RuleBytes, api.RuleName, api.RuleOid}
	for number := int8(1); number <= api.RuleOid; number++ {
		_, syntax := schema.Form(number)
		name, value := schema.RuleName(number), values[syntax]
		for _, kind := range plainSchema().Types {
			desc := kind.Names[0]
			want, wide := api.Unknown, api.Unknown
			if slices.Contains(equals, number) {
				wide = api.No
				if kind.Syntax == syntax {
					want, wide = api.Yes, api.Yes
				}
			}
			r := recordOf(desc + ";x|" + value)
			for _, word := range []string{name, strings.ToUpper(name)} {
				checkSays(t, s, rule(desc, word, value), r, want)
				checkSays(t, s, rule("", word, value), r, wide)
				checkSays(t, s, ruleDn(desc, word, value), recordOf("at", desc+"|"+value), want)
				checkSays(t, s, ruleDn("", word, value), recordOf("at", desc+"|"+value), wide)
			}
			if got := filter.Reads(s, rule("", name, "?"), desc); got != (wide == api.Yes) {
				t.Errorf("the rule %s reads %s: %v", name, desc, got)
			}
		}
	}
}

// Dn looks at the name, too: at all its parts and pairs.
func TestSaysDn(t *testing.T) {
	s := testSchema(t)
	r := recordOf("cn|Ada", "at", "cn|Eve|AGE|7", "2.5.4.11|Dept|sn|Smith", "zz|zed", "cn;x|odd", "ou;|odder", "bare|")
	checkAllSay(t, s, r, []saysCase{
		{ruleDn("cn", "", "eve"), api.Yes}, {ruleDn("cn", "", "ada"), api.Yes}, {rule("cn", "", "eve"), api.No}, {ruleDn("name", "", "EVE"), api.Yes}, {ruleDn("name", "", "smith"), api.Yes}, {ruleDn("sn", "", "smith"), api.No}, {ruleDn("sn", "", "Smith"), api.Yes}, {ruleDn("ou", "", "dept"), api.Yes}, {ruleDn("ou", "caseExactMatch", "dept"), api.No}, {ruleDn("ou", "caseExactMatch", "Dept"), api.Yes}, {ruleDn("age", "", "7"), api.Yes}, {ruleDn("years", "", "7"), api.No}, {ruleDn("cn", "", "dept"), api.No},
		// Options count: a name has none.
		{ruleDn("cn;x", "", "eve"), api.No}, {ruleDn("cn;x", "", "odd"), api.No}, {ruleDn("cn", "", "odd"), api.No}, {ruleDn("name", "", "odd"), api.No},
		{ruleDn("", "caseIgnoreMatch", "eve"), api.Yes}, {ruleDn("", "caseIgnoreMatch", "DEPT"), api.Yes}, {ruleDn("", "caseIgnoreMatch", "ada"), api.Yes}, {ruleDn("", "integerMatch", "7"), api.Yes}, {ruleDn("", "caseIgnoreMatch", "7"), api.No}, {ruleDn("", "caseIgnoreMatch", "zed"), api.No}, {ruleDn("", "caseIgnoreMatch", "odd"), api.No}, {ruleDn("", "caseIgnoreMatch", "odder"), api.No}, {rule("", "caseIgnoreMatch", "eve"), api.No},
		{ruleDn("zz", "caseIgnoreMatch", "zed"), api.Unknown}, {ruleDn("cn", "integerMatch", "7"), api.Unknown}, {ruleDn("", "caseIgnoreMatch", ""), api.Unknown},
		// No other kind looks at the name.
		{equal("cn", "eve"), api.No}, {have("ou"), api.No}, {pieces("cn", "e*"), api.No}, {item(api.FMore, "age", "1"), api.No}, {item(api.FLike, "cn", "eve"), api.No},
	})
}

// A record may be any: its descriptions may not be known, stand twice, and its values have no keys.
func TestSaysAnyRecord(t *testing.T) {
	s := testSchema(t)
	long := strings.Repeat("a", api.MaxText+1)
	r := recordOf("", "c n|a", "zz|a", "cn;|a", "cn;a;b;c;d;e;f;g;h;i|a", long+"|a", "cn||\xff|"+long, "age|05|1.0|"+strings.Repeat("1", api.MaxText+1), "CN|b", "2.5.4.3|c", "sn||\xff", "phone|", "at", "", "|", "cn|d", "ou|\xff")
	checkAllSay(t, s, r, []saysCase{
		{equal("cn", "a"), api.No}, {equal("name", "a"), api.No}, {equal("cn", "b"), api.Yes}, {equal("cn", "c"), api.Yes}, {equal("age", "5"), api.No}, {item(api.FMore, "age", "-9"), api.No}, {item(api.FLess, "age", "99"), api.No}, {item(api.FMore, "sn", "\x01"), api.No}, {item(api.FLess, "sn", "~"), api.No}, {pieces("cn", "a*"), api.No}, {pieces("sn", "*\x01*"), api.No}, {item(api.FLike, "sn", "a"), api.No},
		{rule("", "caseIgnoreMatch", "a"), api.No}, {rule("", "caseIgnoreMatch", "c"), api.Yes}, {ruleDn("", "caseIgnoreMatch", "d"), api.Yes}, {rule("", "telephoneNumberMatch", "-"), api.Unknown}, {have("cn;a"), api.No}, {have("age"), api.Yes},
		{equal("cn", long), api.Unknown}, {have(long), api.Unknown},
	})
	// What has no key is no match of a key without bytes, either.
	for value, want := range map[string]api.Truth{long: api.No, "": api.Yes} {
		for _, f := range []api.Filter{equal("blob", ""), item(api.FMore, "blob", ""), item(api.FLess, "blob", ""), rule("", "octetStringMatch", ""), ruleDn("photo", "octetStringMatch", "")} {
			checkSays(t, s, f, recordOf("blob|"+value, "at", "photo|"+value), want)
		}
	}
	checkAllSay(t, s, api.Record{}, []saysCase{{equal("cn", "a"), api.No}, {have("cn"), api.No}, {ruleDn("", "caseIgnoreMatch", "a"), api.No}, {not(have("cn")), api.Yes}, {have("zz"), api.Unknown}})
}

// saysWhat has for each truth a filter that says it of the chapter's record.
func saysWhat() []api.Filter {
	return []api.Filter{api.No: equal("cn", "no"), api.Yes: equal("cn", "ada"), api.Unknown: equal("zz", "a")}
}

// And's, Or's and Not's tables, of one to four kids.
func TestSaysTables(t *testing.T) {
	s, r, what := testSchema(t), chapterRecord(), saysWhat()
	for many := 1; many <= 4; many++ {
		cases := 1
		for range many {
			cases *= 3
		}
		for n := range cases {
			var truths []api.Truth
			var kids []api.Filter
			for k := n; len(kids) < many; k /= 3 {
				truths, kids = append(truths, api.Truth(k%3)), append(kids, what[k%3])
			}
			checkSays(t, s, and(kids...), r, modelJoin(truths, api.No, api.Yes))
			checkSays(t, s, or(kids...), r, modelJoin(truths, api.Yes, api.No))
		}
	}
	checkAllSay(t, s, r, []saysCase{
		{not(what[api.No]), api.Yes}, {not(what[api.Yes]), api.No}, {not(what[api.Unknown]), api.Unknown}, {not(not(what[api.Unknown])), api.Unknown}, {not(not(what[api.Yes])), api.Yes},
		{and(what[api.Yes], what[api.Unknown]), api.Unknown}, {and(what[api.No], what[api.Unknown]), api.No}, {and(what[api.Unknown], what[api.No]), api.No}, {and(what[api.Yes], what[api.Yes]), api.Yes},
		{or(what[api.No], what[api.Unknown]), api.Unknown}, {or(what[api.Yes], what[api.Unknown]), api.Yes}, {or(what[api.Unknown], what[api.Yes]), api.Yes}, {or(what[api.No], what[api.No]), api.No},
	})
}

// What Check refuses is Unknown, where a kid of it would decide, too.
func TestSaysRefused(t *testing.T) {
	s, r := testSchema(t), chapterRecord()
	yes, no := saysWhat()[api.Yes], saysWhat()[api.No]
	loop := make([]api.Filter, 1)
	loop[0] = api.Filter{Kind: api.FOr, Kids: loop}
	for _, f := range []api.Filter{
		{}, or(), and(), {Kind: api.FNot}, {Kind: -1, Desc: "cn", Value: "ada"}, {Kind: 10, Desc: "cn", Value: "ada"}, or(yes, and()), and(no, or()), {Kind: api.FNot, Kids: []api.Filter{yes, yes}}, {Kind: api.FHave, Desc: "cn", Value: "ada"}, {Kind: api.FEqual, Desc: "cn", Value: "ada", Dn: true}, {Kind: api.FEqual, Desc: "cn", Value: "ada", Kids: []api.Filter{yes}},
		rule("cn", "dn", "ada"), rule("cn", "DN", "ada"), rule("", "", "ada"), pieces("cn", "*"), pieces("cn", "a**"), equal("cn;", "ada"), equal("", "ada"), nots(64, yes), or(yes, nots(63, yes), nots(64, yes)), doubled(16, yes), doubled(60, no), loop[0], or(yes, equal("cn", strings.Repeat("a", api.MaxText+1))),
	} {
		checkSays(t, s, f, r, api.Unknown)
		if filter.Known(s, f) {
			t.Errorf("%s is known", shown(f))
		}
		if filter.Reads(s, f, "cn") {
			t.Errorf("%s reads cn", shown(f))
		}
		for range filter.Items(f) {
			t.Errorf("%s has items", shown(f))
		}
	}
}

// As deep and as many as can be.
func TestSaysAtTheBounds(t *testing.T) {
	s, r := testSchema(t), chapterRecord()
	what := saysWhat()
	checkAllSay(t, s, r, []saysCase{
		{nots(62, what[api.Yes]), api.Yes}, {nots(63, what[api.Yes]), api.No}, {nots(63, what[api.Unknown]), api.Unknown},
		{or(append(slices.Repeat([]api.Filter{what[api.No]}, api.MaxNodes-2), what[api.Yes])...), api.Yes},
		{and(append(slices.Repeat([]api.Filter{what[api.Unknown]}, api.MaxNodes-2), what[api.No])...), api.No},
		{doubled(15, what[api.Yes]), api.Yes}, {equal("cn", strings.Repeat("a", api.MaxText)), api.No},
	})
}

func TestSaysRandom(t *testing.T) {
	d := diceOf(t, 4)
	var counts [3]int
	for range 60000 {
		f := d.item()
		r := d.record(f)
		want := modelSays(d.s, f, r)
		checkSays(t, d.s, f, r, want)
		counts[want]++
	}
	for truth, many := range counts {
		if many < 3000 {
			t.Errorf("%d of the items say %d", many, truth)
		}
	}
	for range 20000 {
		f := d.filter(5)
		r := d.record(f)
		checkSays(t, d.s, f, r, modelSays(d.s, f, r))
	}
}
