package rank_test

import (
	"slices"
	"strconv"
	"strings"
	"testing"

	"roster/api"
)

// The chapter's examples.
func TestSortExamples(t *testing.T) {
	s := testSchema(t)
	three := each("cn|b", "cn|A", "")
	sorts(t, s, three, keysOf("cn"), 1, 0, 2)
	sorts(t, s, three, keysOf("!cn"), 0, 1, 2)
	ages := []api.Record{made("age|10", "cn|x"), made("age|9", "cn|y"), made("age|10", "cn|a")}
	sorts(t, s, ages, keysOf("age", "cn"), 1, 2, 0)
	two := each("cn|b|d", "cn|c")
	sorts(t, s, two, keysOf("cn"), 0, 1)
	sorts(t, s, two, keysOf("!cn"), 0, 1)
	refuses(t, s, three, nil, api.ErrKey)
	refuses(t, s, three, keysOf("zz"), api.ErrKey)
	refuses(t, s, three, keysOf("cn integerOrderingMatch"), api.ErrKey)
	refuses(t, s, three, keysOf("cn caseIgnoreMatch"), api.ErrKey)
}

// P22.1: of several errors the first.
func TestFirstErrorOfSort(t *testing.T) {
	s := testSchema(t)
	nine, wrong := slices.Repeat(keysOf("cn"), 9), slices.Repeat(keysOf("zz"), 9)
	l := each("cn|b", "cn|a")
	for _, records := range [][]api.Record{l, nil} {
		for _, keys := range [][]api.SortKey{nil, {}, keysOf("cn"), keysOf("zz"), nine, wrong} {
			refuses(t, nil, records, keys, api.ErrNil)
		}
		refuses(t, s, records, nil, api.ErrKey)
		refuses(t, s, records, []api.SortKey{}, api.ErrKey)
		refuses(t, s, records, nine, api.ErrLong)
		refuses(t, s, records, wrong, api.ErrLong)
		refuses(t, s, records, slices.Repeat(keysOf("cn"), 1000), api.ErrLong)
		refuses(t, s, records, wrong[:8], api.ErrKey)
		refuses(t, s, records, append(nine[:7:7], keysOf("zz")...), api.ErrKey)
		refuses(t, s, records, keysOf("zz", "cn"), api.ErrKey)
		refuses(t, s, records, keysOf("cn", "cn integerMatch"), api.ErrKey)
	}
	sorts(t, s, l, nine[:8], 1, 0)
	sorts(t, s, l, nine[:1], 1, 0)
}

// P22.1: what schema.Desc refuses is no sort key, whatever it is refused for.
func TestDescOfSortKey(t *testing.T) {
	s := testSchema(t)
	l := each("cn|b", "CN|a")
	options := ";a;b;c;d;e;f;g;h"
	long := "cn" + strings.Repeat(";x", (api.MaxText-2)/2)
	for _, desc := range []string{"", "zz", "c n", "cn;", ";x", "cn;x;", "cn;_", "2.5.4.03", "2.5.4.99", "cn" + options + ";i", long + ";x", strings.Repeat("x", api.MaxText+1), "caseIgnoreOrderingMatch", "person", "\xff"} {
		refuses(t, s, l, []api.SortKey{{Desc: desc}}, api.ErrKey)
		refuses(t, s, l, []api.SortKey{{Desc: desc, Rule: "caseIgnoreOrderingMatch"}}, api.ErrKey)
		refuses(t, s, nil, []api.SortKey{{Desc: "cn"}, {Desc: desc, Back: true}}, api.ErrKey)
	}
	sorts(t, s, l, keysOf("COMMONNAME"), 1, 0)
	sorts(t, s, l, keysOf("2.5.4.3"), 1, 0)
	sorts(t, s, each("cn"+options+"|b", "cn;x|0", "cn"+options+";i|c"), keysOf("CN"+strings.ToUpper(options)+options), 0, 1, 2)
	sorts(t, s, each("cn|a", "cn;x|b", "cn;X;y|a"), keysOf(long), 2, 1, 0)
}

// P22.1: a rule by its name or Oid must be one for order, of the type's syntax; the type's own are then nothing to it.
func TestNamedRule(t *testing.T) {
	s := testSchema(t)
	l := each("cn|b", "cn|B", "cn|a", "cn|A")
	sorts(t, s, l, keysOf("cn"), 2, 3, 0, 1)
	for _, rule := range []string{"caseIgnoreOrderingMatch", "CASEIGNOREorderingmatch", "2.5.13.3"} {
		sorts(t, s, l, keysOf("cn "+rule), 2, 3, 0, 1)
		sorts(t, s, l, keysOf("!cn "+rule), 0, 1, 2, 3)
	}
	for _, rule := range []string{"caseExactOrderingMatch", "2.5.13.6"} {
		sorts(t, s, l, keysOf("cn "+rule), 3, 1, 2, 0)
		sorts(t, s, l, keysOf("!cn "+rule), 0, 2, 1, 3)
	}
	taken := map[string][]string{
		"cn": {"2.5.13.3", "2.5.13.6"}, "bare": {"2.5.13.3", "2.5.13.6"}, "pieced": {"2.5.13.3", "2.5.13.6"}, "digits": {"2.5.13.9"}, "age": {"2.5.13.15"}, "tally": {"2.5.13.15"},
		"moment": {"2.5.13.28"}, "photo": {"2.5.13.18"}, "blob": {"2.5.13.18"}, "flag": nil, "phone": nil, "seeAlso": nil, "kind": nil, "objectClass": nil,
	}
	rules := []string{"2.5.13", "2.5.13.", "2.5.13.03", "3", "caseIgnoreOrdering", "caseIgnoreOrderingMatch ", " ", "cn", "2.5.4.3"}
	for at := range 40 {
		rules = append(rules, "2.5.13."+strconv.Itoa(at))
	}
	for desc, right := range taken {
		for _, rule := range rules {
			key := []api.SortKey{{Desc: desc, Rule: rule}}
			if slices.Contains(right, rule) {
				sorts(t, s, each("", ""), key, 0, 1)
			} else {
				refuses(t, s, each("", ""), key, api.ErrKey)
			}
		}
	}
}

// P22.1: without a rule the type's one for order counts, else the one for equality, its own or that of its Sup; with neither it is no key.
func TestRuleOfType(t *testing.T) {
	s := testSchema(t)
	sorts(t, s, each("mixed|b", "mixed|A", "mixed|B", "mixed|a"), keysOf("mixed"), 1, 3, 0, 2)
	sorts(t, s, each("sn|b", "sn|B", "sn|a", "sn|A"), keysOf("sn"), 3, 1, 2, 0)
	sorts(t, s, each("cn|b", "cn|A"), keysOf("cn"), 1, 0)
	sorts(t, s, each("age|10", "age|9", "age|-9", "age|-10"), keysOf("age"), 3, 2, 1, 0)
	sorts(t, s, each("years|10", "years|9", "age|8"), keysOf("years"), 1, 0, 2)
	sorts(t, s, each("flag|TRUE", "flag|FALSE"), keysOf("flag"), 1, 0)
	sorts(t, s, each("phone|+2-0", "phone|+ 1 9"), keysOf("phone"), 1, 0)
	sorts(t, s, each("seeAlso|cn=b", "seeAlso|CN=A", "seeAlso|cn=a"), keysOf("seeAlso"), 1, 2, 0)
	sorts(t, s, each("kind|sn", "kind|commonName", "kind|2.5.4.3", "kind|CN"), keysOf("!kind"), 0, 1, 2, 3)
	sorts(t, s, each("kind|human", "kind|person", "kind|name"), keysOf("kind"), 2, 0, 1)
	sorts(t, s, each("moment|20240101000000.5Z", "moment|20240101010000+0100", "moment|20240101000000Z", "moment|20231231235959Z"), keysOf("moment"), 3, 1, 2, 0)
	sorts(t, s, each("digits|1 0", "digits|0 9", "digits|9"), keysOf("digits"), 1, 0, 2)
	sorts(t, s, each("blob|\xff", "blob|a", "blob|A"), keysOf("blob"), 2, 1, 0)
	for _, desc := range []string{"tally", "photo", "bare", "pieced"} {
		refuses(t, s, each("cn|a"), keysOf(desc), api.ErrKey)
		refuses(t, s, nil, keysOf("!"+desc), api.ErrKey)
		refuses(t, s, nil, keysOf("cn", desc+";x"), api.ErrKey)
	}
	sorts(t, s, each("tally|10", "tally|9"), keysOf("tally integerOrderingMatch"), 1, 0)
	sorts(t, s, each("bare|b", "bare|A", "bare|a"), keysOf("bare caseIgnoreOrderingMatch"), 1, 2, 0)
	sorts(t, s, each("pieced|b", "pieced|A", "pieced|a"), keysOf("!pieced 2.5.13.6"), 0, 2, 1)
	sorts(t, s, each("photo|b", "photo|A"), keysOf("photo 2.5.13.18"), 1, 0)
}

// P22.1: what has no key comes behind what has one, turned round or not; an empty key is one.
func TestRecordsWithoutKey(t *testing.T) {
	s := testSchema(t)
	long, longer := strings.Repeat("z", api.MaxText), strings.Repeat("a", api.MaxText+1)
	for _, none := range []string{"", "cn", "age|1", "cn|", "cn|\xff", "cn|" + longer, "cn;|a", "zz|a", "c n|a"} {
		sorts(t, s, each(none, "cn|b", none, "cn|a", none), keysOf("cn"), 3, 1, 0, 2, 4)
		sorts(t, s, each(none, "cn|b", none, "cn|a", none), keysOf("!cn"), 1, 3, 0, 2, 4)
		sorts(t, s, each(none, none), keysOf("!cn"), 0, 1)
	}
	sorts(t, s, each("cn|b", "cn|"+long, "cn|"+longer), keysOf("!cn"), 1, 0, 2)
	sorts(t, s, each("blob", "blob|a", "blob|"), keysOf("blob"), 2, 1, 0)
	sorts(t, s, each("blob", "blob|", "blob|a"), keysOf("!blob"), 2, 1, 0)
	sorts(t, s, each("age|x", "age|01", "age|5", "age|"), keysOf("age"), 2, 0, 1, 3)
	sorts(t, s, each("age|x", "age|01", "age|5", "age|"), keysOf("!age"), 2, 0, 1, 3)
}

// P22.1: of several values the least counts, turned round the greatest; those without a key do not.
func TestSeveralValues(t *testing.T) {
	s := testSchema(t)
	l := each("cn|c|x", "cn|b", "cn|y|a", "cn|m|d|n")
	sorts(t, s, l, keysOf("cn"), 2, 1, 0, 3)
	sorts(t, s, l, keysOf("!cn"), 2, 0, 3, 1)
	mixed := each("cn|\xff|b", "cn||a|\xff", "cn|c|\xff|")
	sorts(t, s, mixed, keysOf("cn"), 1, 0, 2)
	sorts(t, s, mixed, keysOf("!cn"), 2, 0, 1)
	ages := each("age|9|-5", "age|10|x", "age|-6|100")
	sorts(t, s, ages, keysOf("age"), 2, 0, 1)
	sorts(t, s, ages, keysOf("!age"), 2, 1, 0)
	sorts(t, s, each("blob|a|", "blob|", "blob|"), keysOf("blob"), 0, 1, 2)
	sorts(t, s, each("blob|", "blob||a", "blob|"), keysOf("!blob"), 1, 0, 2)
	parted := []api.Record{made("cn|b", "sn|q", "cn|z"), made("cn|c"), made("cn|d", "CN|a")}
	sorts(t, s, parted, keysOf("cn"), 2, 0, 1)
	sorts(t, s, parted, keysOf("!cn"), 0, 2, 1)
}

// P22.1: a sort key covers types below its own, by its own rule, and what has more options.
func TestCoveredValues(t *testing.T) {
	s := testSchema(t)
	l := []api.Record{made("sn|b"), made("cn|A"), made("name|C"), made("cn;x|a", "sn;y|D"), made("age|1")}
	sorts(t, s, l, keysOf("name"), 1, 3, 0, 2, 4)
	sorts(t, s, l, keysOf("!name"), 3, 2, 0, 1, 4)
	sorts(t, s, l, keysOf("name caseExactOrderingMatch"), 1, 2, 3, 0, 4)
	sorts(t, s, l, keysOf("cn"), 1, 3, 0, 2, 4)
	sorts(t, s, l, keysOf("cn;x"), 3, 0, 1, 2, 4)
	sorts(t, s, l, keysOf("name;Y"), 3, 0, 1, 2, 4)
	sorts(t, s, l, keysOf("name;x;y"), 0, 1, 2, 3, 4)
	sorts(t, s, each("name|a", "cn|b"), keysOf("cn"), 1, 0)
	sorts(t, s, each("age|5", "years|10", "years|-1"), keysOf("age"), 2, 0, 1)
}

// P22.1: where a key does not tell two records apart the next one does; where none does they stay.
func TestSeveralKeys(t *testing.T) {
	s := testSchema(t)
	l := []api.Record{made("cn|a", "sn|y", "age|1"), made("cn|A", "sn|x", "age|2"), made("cn|b", "age|1"), made("sn|x"), made("cn|a", "sn|x", "age|1"), made("sn|x", "age|0")}
	sorts(t, s, l, keysOf("cn"), 0, 1, 4, 2, 3, 5)
	sorts(t, s, l, keysOf("cn", "sn"), 1, 4, 0, 2, 3, 5)
	sorts(t, s, l, keysOf("cn", "!sn"), 0, 1, 4, 2, 3, 5)
	sorts(t, s, l, keysOf("cn", "sn", "age"), 4, 1, 0, 2, 5, 3)
	sorts(t, s, l, keysOf("cn", "sn", "!age"), 1, 4, 0, 2, 5, 3)
	sorts(t, s, l, keysOf("!cn", "age", "sn"), 2, 4, 0, 1, 5, 3)
	sorts(t, s, l, keysOf("cn", "cn 2.5.13.6"), 1, 0, 4, 2, 3, 5)
	sorts(t, s, l, keysOf("cn", "!cn"), 0, 1, 4, 2, 3, 5)
	sorts(t, s, l, keysOf("flag", "moment", "phone", "digits", "blob", "seeAlso", "kind", "!age"), 1, 0, 2, 4, 5, 3)
	sorts(t, s, each("cn|a", "cn|A", "cn| a", "cn|a"), keysOf("cn", "!cn", "sn"), 0, 1, 2, 3)
}

// P22.1: few records and many.
func TestCountOfRecords(t *testing.T) {
	s := testSchema(t)
	sorts(t, s, nil, keysOf("cn"))
	sorts(t, s, []api.Record{}, keysOf("!cn", "age"))
	sorts(t, s, each(""), keysOf("cn"), 0)
	sorts(t, s, each("cn|a"), keysOf("!cn"), 0)
	sorts(t, s, each("cn|b", "cn|a"), keysOf("cn"), 1, 0)
	const many = 20000
	var l []api.Record
	var want, back []int
	for at := range many {
		l = append(l, made("cn|"+string(rune('a'+at%26))))
	}
	for letter := range 26 {
		for at := letter; at < many; at += 26 {
			want = append(want, at)
		}
		for at := 25 - letter; at < many; at += 26 {
			back = append(back, at)
		}
	}
	sorts(t, s, l, keysOf("cn"), want...)
	sorts(t, s, l, keysOf("!cn"), back...)
}

// P22.1: numbers and names of records, and what else they have, make no difference.
func TestValuesAlone(t *testing.T) {
	s := testSchema(t)
	l := []api.Record{
		{Id: 3, Name: api.Name{Rdns: []api.Rdn{{Avas: []api.Ava{{Type: "cn", Value: "0"}}}}}, Entry: made("cn|b", "age|1").Entry},
		{Id: 2, Name: api.Name{Rdns: []api.Rdn{{Avas: []api.Ava{{Type: "cn", Value: "z"}}}}}, Entry: made("cn|a", "age|9").Entry},
		{Id: 1, Name: api.Name{Rdns: []api.Rdn{{Avas: []api.Ava{{Type: "cn", Value: "a"}}}}}},
		{Id: 2, Entry: made("age|0", "cn|a").Entry},
	}
	sorts(t, s, l, keysOf("cn"), 1, 3, 0, 2)
	sorts(t, s, l, keysOf("!cn"), 0, 1, 3, 2)
}
