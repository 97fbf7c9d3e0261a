package match_test

import (
	"fmt"
	"slices"
	"strings"
	"testing"

	"roster/api"
	"roster/name"
	"roster/prep"
	"roster/schema"
)

// Places of the types of plainSchema.
const (
	objectClass = iota
	cn
	exact
	digits
	phone
	number
	flag
	moment
	octets
	seeAlso
	sn
	owner
	bareText
	bareDigits
	barePhone
	bareNumber
	bareFlag
	bareTime
	bareBytes
	bareName
	bareOid
	typeCount
)

func plainSchema() api.Schema {
	return api.Schema{
		Types: []api.Type{
			objectClass: {Oid: "2.5.4.0", Names: []string{"objectClass"}, Syntax: api.SynOid, Equal: api.RuleOid},
			cn:          {Oid: "2.5.4.3", Names: []string{"cn", "commonName"}, Equal: api.RuleFold, Order: api.RuleFoldOrder, Part: api.RuleFoldPart},
			exact:       {Oid: "1.2", Names: []string{"exact"}, Equal: api.RuleExact, Order: api.RuleExactOrder, Part: api.RuleExactPart},
			digits:      {Oid: "1.3", Names: []string{"digits"}, Syntax: api.SynDigits, Equal: api.RuleDigits, Order: api.RuleDigitsOrder, Part: api.RuleDigitsPart},
			phone:       {Oid: "1.4", Names: []string{"phone"}, Syntax: api.SynPhone, Equal: api.RulePhone, Part: api.RulePhonePart},
			number:      {Oid: "1.5", Names: []string{"number"}, Syntax: api.SynNumber, Equal: api.RuleNumber, Order: api.RuleNumberOrder},
			flag:        {Oid: "1.6", Names: []string{"flag"}, Syntax: api.SynFlag, Equal: api.RuleFlag},
			moment:      {Oid: "1.7", Names: []string{"moment"}, Syntax: api.SynTime, Equal: api.RuleTime, Order: api.RuleTimeOrder},
			octets:      {Oid: "1.8", Names: []string{"octets"}, Syntax: api.SynBytes, Equal: api.RuleBytes, Order: api.RuleBytesOrder},
			seeAlso:     {Oid: "1.9", Names: []string{"seeAlso", "s"}, Syntax: api.SynName, Equal: api.RuleName},
			sn:          {Oid: "1.10", Names: []string{"sn"}, Sup: "cn"},
			owner:       {Oid: "1.11", Names: []string{"owner"}, Sup: "seeAlso", Syntax: api.SynName},
			bareText:    {Oid: "1.12", Names: []string{"bareText"}, Order: api.RuleFoldOrder, Part: api.RuleFoldPart},
			bareDigits:  {Oid: "1.13", Names: []string{"bareDigits"}, Syntax: api.SynDigits},
			barePhone:   {Oid: "1.14", Names: []string{"barePhone"}, Syntax: api.SynPhone},
			bareNumber:  {Oid: "1.15", Names: []string{"bareNumber"}, Syntax: api.SynNumber},
			bareFlag:    {Oid: "1.16", Names: []string{"bareFlag"}, Syntax: api.SynFlag},
			bareTime:    {Oid: "1.17", Names: []string{"bareTime"}, Syntax: api.SynTime},
			bareBytes:   {Oid: "1.18", Names: []string{"bareBytes"}, Syntax: api.SynBytes},
			bareName:    {Oid: "1.19", Names: []string{"bareName", "n"}, Syntax: api.SynName},
			bareOid:     {Oid: "1.20", Names: []string{"bareOid"}, Syntax: api.SynOid},
		},
		Classes: []api.Class{
			{Oid: "2.5.6.0", Names: []string{"top"}, Kind: api.ClAbstract},
			{Oid: "2.5.6.6", Names: []string{"person", "Human"}, Sups: []string{"top"}, Kind: api.ClStructural},
			{Oid: "2.5.6.7", Names: []string{"SN"}, Kind: api.ClAuxiliary},    // a type has this name, too
			{Oid: "2.5.4.3", Names: []string{"named"}, Kind: api.ClAuxiliary}, // and this Oid
		},
	}
}

func testSchema(t testing.TB) *schema.Schema {
	t.Helper()
	s, e, at := schema.New(plainSchema())
	if e != api.OK {
		t.Fatalf("the schema is refused: %v at %d", e, at)
	}
	return s
}

// notPlaces are places of no types.
var notPlaces = []int{-1, -2, -1 << 31, -1 << 63, typeCount, typeCount + 1, api.MaxTypes, 1 << 31, 1<<63 - 1}

var (
	equalRules = []int8{api.RuleFold, api.RuleExact, api.RuleDigits, api.RulePhone, api.RuleNumber, api.RuleFlag, api.RuleTime, api.RuleBytes, api.RuleName, api.RuleOid}
	orderRules = []int8{api.RuleFoldOrder, api.RuleExactOrder, api.RuleDigitsOrder, api.RuleNumberOrder, api.RuleTimeOrder, api.RuleBytesOrder}
	partRules  = []int8{api.RuleFoldPart, api.RuleExactPart, api.RuleDigitsPart, api.RulePhonePart}
)

func allRules() []int8 {
	return slices.Concat(equalRules, orderRules, partRules)
}

// allNumbers are those of all rules, of none, and all others of their kind.
func allNumbers() []int8 {
	var all []int8
	for rule := -128; rule < 128; rule++ {
		all = append(all, int8(rule))
	}
	return all
}

// numbersBut has all numbers but these.
func numbersBut(rules []int8) []int8 {
	return slices.DeleteFunc(allNumbers(), func(rule int8) bool { return slices.Contains(rules, rule) })
}

// formOf is the chapter 5 table's form of a rule.
func formOf(rule int8) (int8, bool) {
	for form, rules := range [][]int8{
		api.FormFold:   {api.RuleFold, api.RuleFoldOrder, api.RuleFoldPart},
		api.FormExact:  {api.RuleExact, api.RuleExactOrder, api.RuleExactPart},
		api.FormDigits: {api.RuleDigits, api.RuleDigitsOrder, api.RuleDigitsPart},
		api.FormPhone:  {api.RulePhone, api.RulePhonePart},
		api.FormNumber: {api.RuleNumber, api.RuleNumberOrder},
		api.FormFlag:   {api.RuleFlag},
		api.FormTime:   {api.RuleTime, api.RuleTimeOrder},
		api.FormBytes:  {api.RuleBytes, api.RuleBytesOrder},
	} {
		if slices.Contains(rules, rule) {
			return int8(form), true
		}
	}
	return 0, false
}

// modelKey does what P7.1 says.
func modelKey(s *schema.Schema, rule int8, value string) (string, bool) {
	switch rule {
	case api.RuleName:
		n, err := name.Parse(value)
		if err != nil {
			return "", false
		}
		key, e := name.Key(s, n)
		return key, e == api.OK
	case api.RuleOid:
		w, ok := prep.Key(api.FormOid, value)
		if !ok {
			return "", false
		}
		for _, t := range plainSchema().Types {
			if t.Oid == w || hasWord(t.Names, w) {
				return t.Oid, true
			}
		}
		for _, c := range plainSchema().Classes {
			if c.Oid == w || hasWord(c.Names, w) {
				return c.Oid, true
			}
		}
		return w, true
	}
	form, ok := formOf(rule)
	if !ok {
		return "", false
	}
	return prep.Key(form, value)
}

func hasWord(names []string, word string) bool {
	return slices.ContainsFunc(names, func(name string) bool { return strings.ToLower(name) == word })
}

// modelFits does what P7.2 says.
func modelFits(s *schema.Schema, t int, value string) bool {
	form := map[int8]int8{api.SynText: api.FormExact, api.SynDigits: api.FormDigits, api.SynPhone: api.FormPhone, api.SynNumber: api.FormNumber, api.SynFlag: api.FormFlag, api.SynTime: api.FormTime, api.SynBytes: api.FormBytes, api.SynOid: api.FormOid}
	var ok bool
	if syntax := plainSchema().Types[t].Syntax; syntax == api.SynName {
		_, ok = modelKey(s, api.RuleName, value)
	} else {
		_, ok = prep.Key(form[syntax], value)
	}
	return ok
}

// modelEqualRule is the rule for equality of a type: its own, or its Sup's (none of the schema's types has two above it).
func modelEqualRule(t int) int8 {
	return map[int]int8{objectClass: api.RuleOid, cn: api.RuleFold, exact: api.RuleExact, digits: api.RuleDigits, phone: api.RulePhone, number: api.RuleNumber, flag: api.RuleFlag, moment: api.RuleTime, octets: api.RuleBytes, seeAlso: api.RuleName, sn: api.RuleFold, owner: api.RuleName}[t]
}

// modelSame does what P7.3 says.
func modelSame(s *schema.Schema, t int, a, b string) bool {
	keyA, okA := modelKey(s, modelEqualRule(t), a)
	keyB, okB := modelKey(s, modelEqualRule(t), b)
	if okA && okB {
		return keyA == keyB
	}
	return a == b
}

// modelCompared does what P7.4 and P7.5 say, of the rules of a sort.
func modelCompared(s *schema.Schema, sort []int8, rule int8, value, asked string, holds func(key, asked string) bool) api.Truth {
	want, ok := modelKey(s, rule, asked)
	if !ok || !slices.Contains(sort, rule) {
		return api.Unknown
	}
	if key, ok := modelKey(s, rule, value); ok && holds(key, want) {
		return api.Yes
	}
	return api.No
}

func modelEqual(s *schema.Schema, rule int8, value, asked string) api.Truth {
	return modelCompared(s, equalRules, rule, value, asked, func(key, asked string) bool { return key == asked })
}

func modelFrom(s *schema.Schema, rule int8, value, asked string) api.Truth {
	return modelCompared(s, orderRules, rule, value, asked, func(key, asked string) bool { return key >= asked })
}

func modelUpTo(s *schema.Schema, rule int8, value, asked string) api.Truth {
	return modelCompared(s, orderRules, rule, value, asked, func(key, asked string) bool { return key <= asked })
}

// modelPart does what P7.6 says, and looks for the middles at all places.
func modelPart(s *schema.Schema, rule int8, value, start string, middles []string, end string) api.Truth {
	form, _ := formOf(rule)
	if !slices.Contains(partRules, rule) {
		return api.Unknown
	}
	can := true
	made := func(where int8, piece string) string {
		out, ok := prep.Piece(form, where, piece)
		can = can && ok
		return out
	}
	if start != "" {
		start = made(api.AtStart, start)
	}
	if end != "" {
		end = made(api.AtEnd, end)
	}
	var between []string
	for _, m := range middles {
		between = append(between, made(api.AtMiddle, m))
	}
	if !can {
		return api.Unknown
	}
	key, ok := modelKey(s, rule, value)
	if !ok || len(key) < len(start)+len(end) || key[:len(start)] != start || key[len(key)-len(end):] != end {
		return api.No
	}
	if standSomewhere(key[len(start):len(key)-len(end)], between) {
		return api.Yes
	}
	return api.No
}

func standSomewhere(room string, middles []string) bool {
	if len(middles) == 0 {
		return true
	}
	for at := 0; at+len(middles[0]) <= len(room); at++ {
		if behind := at + len(middles[0]); room[at:behind] == middles[0] && standSomewhere(room[behind:], middles[1:]) {
			return true
		}
	}
	return false
}

// modelLike does what P7.7 says.
func modelLike(s *schema.Schema, t int, value, asked string) api.Truth {
	if !modelFits(s, t, asked) {
		return api.Unknown
	}
	if plainSchema().Types[t].Syntax != api.SynText {
		return modelEqual(s, modelEqualRule(t), value, asked)
	}
	a, okA := prep.Key(api.FormFold, value)
	b, okB := prep.Key(api.FormFold, asked)
	if okA && okB && a == b || prep.Sound(value) == prep.Sound(asked) && prep.Sound(asked) != "" {
		return api.Yes
	}
	return api.No
}

// someValues has values of all syntaxes, and texts that are none.
var someValues = []string{
	"", " ", "   ", "a", "A", " a ", "a b", "A  B", "ab", "B", "é", "É", "\xff", "a\xc3", "a\x00", "z",
	"0", "1", "01", "-1", "-0", "9", "10", "-10", "-9", "1 2", "12", "1 0", "1-2", "+49 30", "+4930", "-", "- -", "(1)",
	"TRUE", "true", "FALSE", "True",
	"20240229235959Z", "20240229235959.5Z", "20240229235959.50+0000", "20240301005959+0100", "20230229000000Z", "20240229235958Z",
	"cn", "CN", "2.5.4.3", "commonName", "COMMONNAME", "named", "person", "PERSON", "human", "2.5.6.6", "2.5.6.06", "sn", "Sn", "1.10", "2.5.6.7", "x1", "X1", "9.9", "2",
	"cn=a", "CN=A", "2.5.4.3= A", "cn=a,sn=b", "CN=A,SN=B", "sn=b,cn=a", "cn=a+sn=b", "sn=B+cn=A", "zz=a", "cn=", "cn=a,", "cn= a", "s=cn\\=a", "s=cn=a", "S=CN=A", "1.9=zz=a", "objectClass=cn", "objectclass=2.5.4.3", "n=cn=a", "n=CN=A",
	"Robert", "Rupert", "Rupert x", "robert-X", "r",
}

func brief(s string) string {
	if len(s) > 80 {
		return fmt.Sprintf("%q.. (%d bytes)", s[:80], len(s))
	}
	return fmt.Sprintf("%q", s)
}
