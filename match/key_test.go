package match_test

import (
	"strings"
	"testing"

	"roster/api"
	"roster/match"
	"roster/schema"
)

func checkKey(t *testing.T, s *schema.Schema, rule int8, value, want string) {
	t.Helper()
	if key, ok := match.Key(s, rule, value); key != want || !ok {
		t.Errorf("Key(%d, %s) = %s, %v, want %s", rule, brief(value), brief(key), ok, brief(want))
	}
}

func checkNoKey(t *testing.T, s *schema.Schema, rule int8, value string) {
	t.Helper()
	if key, ok := match.Key(s, rule, value); key != "" || ok {
		t.Errorf("Key(%d, %s) = %s, %v, want none", rule, brief(value), brief(key), ok)
	}
}

func TestKeyExamples(t *testing.T) {
	s := testSchema(t)
	checkKey(t, s, api.RuleFold, " Two  Words ", "two words")
	checkNoKey(t, s, api.RuleNumber, "07")
	checkNoKey(t, s, api.RuleNone, "a")
	checkNoKey(t, s, 99, "a")
	checkKey(t, s, api.RuleOid, "CN", "2.5.4.3")
	checkKey(t, s, api.RuleOid, "2.5.4.3", "2.5.4.3")
	checkKey(t, s, api.RuleOid, "nobody", "nobody")
	checkNoKey(t, s, api.RuleOid, "a b")
}

// Each rule has a value whose key no other form makes so, and one that has none.
func TestKeyByEachForm(t *testing.T) {
	s := testSchema(t)
	for _, c := range []struct {
		rules             []int8
		value, want, none string
	}{
		{[]int8{api.RuleFold, api.RuleFoldOrder, api.RuleFoldPart}, " Ab  C ", "ab c", ""},
		{[]int8{api.RuleExact, api.RuleExactOrder, api.RuleExactPart}, " Ab  C ", "Ab C", "\xff"},
		{[]int8{api.RuleDigits, api.RuleDigitsOrder, api.RuleDigitsPart}, " 1 02 ", "102", "1-2"},
		{[]int8{api.RulePhone, api.RulePhonePart}, "+1 (0)2-A", "+1(0)2a", "- -"},
		{[]int8{api.RuleNumber, api.RuleNumberOrder}, "-7", "\x6e\xff\xff\xfe2", "-07"},
		{[]int8{api.RuleFlag}, "TRUE", "TRUE", "true"},
		{[]int8{api.RuleTime, api.RuleTimeOrder}, "20240229235959.50+0130", "202402292229595", "20230229000000Z"},
		{[]int8{api.RuleBytes, api.RuleBytesOrder}, " \xff A ", " \xff A ", strings.Repeat("a", api.MaxText+1)},
		{[]int8{api.RuleOid}, "X-1", "x-1", "-x"},
		{[]int8{api.RuleName}, "SN=B+cn=A", "1=1:a+10=1:b;", "zz=a"},
	} {
		for _, rule := range c.rules {
			checkKey(t, s, rule, c.value, c.want)
			checkNoKey(t, s, rule, c.none)
		}
	}
}

func TestKeyOfNoRule(t *testing.T) {
	s := testSchema(t)
	for _, rule := range numbersBut(allRules()) {
		for _, value := range []string{"", "a", "1", "cn", "cn=a", "TRUE"} {
			checkNoKey(t, s, rule, value)
		}
	}
	for _, rule := range []int8{api.RuleNone, -1, -128, api.RuleOid + 1, 127} {
		checkNoKey(t, s, rule, "1")
	}
}

func TestKeyOfWords(t *testing.T) {
	s := testSchema(t)
	for _, c := range []struct{ value, want string }{
		{"cn", "2.5.4.3"}, {"cN", "2.5.4.3"}, {"commonName", "2.5.4.3"}, {"COMMONNAME", "2.5.4.3"},
		{"objectclass", "2.5.4.0"}, {"2.5.4.0", "2.5.4.0"}, {"bareOid", "1.20"},
		{"person", "2.5.6.6"}, {"PERSON", "2.5.6.6"}, {"human", "2.5.6.6"}, {"HUMAN", "2.5.6.6"}, {"2.5.6.6", "2.5.6.6"}, {"Top", "2.5.6.0"},
		{"sn", "1.10"}, {"SN", "1.10"}, // a type's, and a class's that has another Oid
		{"2.5.6.7", "2.5.6.7"}, {"named", "2.5.4.3"}, {"Named", "2.5.4.3"},
		{"nobody", "nobody"}, {"NoBody-1", "nobody-1"}, {"9.9", "9.9"}, {"0.0", "0.0"}, {"x", "x"},
	} {
		checkKey(t, s, api.RuleOid, c.value, c.want)
	}
	for _, none := range []string{"", " ", "cn ", " cn", "cn;x", "2", "2.05", "2.5.", ".5", "-a", "1a", "c_n", "\xff", "é"} {
		checkNoKey(t, s, api.RuleOid, none)
	}
}

func TestKeyOfWordsWithoutClasses(t *testing.T) {
	p := plainSchema()
	p.Classes = nil
	s, e, _ := schema.New(p)
	if e != api.OK {
		t.Fatal(e)
	}
	checkKey(t, s, api.RuleOid, "Person", "person")
	checkKey(t, s, api.RuleOid, "SN", "1.10")
}

func TestKeyOfNames(t *testing.T) {
	s := testSchema(t)
	for _, c := range []struct{ value, want string }{
		{"", ""}, // the name of no parts
		{"cn=a", "1=1:a;"},
		{"CommonName=A", "1=1:a;"},
		{"2.5.4.3=A", "1=1:a;"},
		{`cn=\ A`, "1=1:a;"},
		{"CN=Ada  B,sn=x", "10=1:x;1=5:ada b;"},
		{"s=cn=A", "9=6:1=1:a;;"},
		{`owner=s\=cn=A`, "11=11:9=6:1=1:a;;;"},
		{"objectClass=PERSON", "0=7:2.5.6.6;"},
		{"n=CN=A", "19=4:CN=A;"}, // without a rule for equality as it is
		{"number=1", "5=5:\x70\x00\x00\x011;"},
	} {
		checkKey(t, s, api.RuleName, c.value, c.want)
	}
	for _, none := range []string{"a", "cn", "cn=a,", "cn= a", "cn=a ", "=a", "cn=a;", `cn=\zz`, "zz=a", "cn=a+CN=b", "cn=", "number=01", "s=zz=a", "n=cn=", "flag=true,cn=a"} {
		checkNoKey(t, s, api.RuleName, none)
	}
}

// What Parse takes name.Key may yet refuse, as too long to be printed.
func TestKeyOfLongNames(t *testing.T) {
	s := testSchema(t)
	checkKey(t, s, api.RuleName, "octets="+strings.Repeat("\x01", 21843), "8=21843:"+strings.Repeat("\x01", 21843)+";")
	checkNoKey(t, s, api.RuleName, "octets="+strings.Repeat("\x01", 21844))
	long := strings.Repeat("A", api.MaxText-len("cn="))
	checkKey(t, s, api.RuleName, "cn="+long, "1=65533:"+strings.ToLower(long)+";")
	checkNoKey(t, s, api.RuleName, "cn="+long+"a")
	checkNoKey(t, s, api.RuleName, strings.Repeat("cn=a,", api.MaxRdns)+"cn=a")
	checkKey(t, s, api.RuleName, strings.Repeat("cn=a,", api.MaxRdns-1)+"cn=a", strings.Repeat("1=1:a;", api.MaxRdns))
}

func TestKeyOfLongValues(t *testing.T) {
	s := testSchema(t)
	long := strings.Repeat("1", api.MaxText)
	for _, rule := range []int8{api.RuleFold, api.RuleFoldOrder, api.RuleFoldPart, api.RuleExact, api.RuleDigits, api.RulePhonePart, api.RuleBytes, api.RuleBytesOrder} {
		checkKey(t, s, rule, long, long)
		checkNoKey(t, s, rule, long+"1")
	}
	checkKey(t, s, api.RuleNumber, long, "\x70\x01\x00\x00"+long)
	checkNoKey(t, s, api.RuleNumber, long+"1")
	word := strings.Repeat("a", api.MaxText)
	checkKey(t, s, api.RuleOid, word, word)
	checkNoKey(t, s, api.RuleOid, word+"a")
}

func TestKeyOfEachRuleAndValue(t *testing.T) {
	s := testSchema(t)
	for _, rule := range allNumbers() {
		for _, value := range someValues {
			want, wantOk := modelKey(s, rule, value)
			if key, ok := match.Key(s, rule, value); key != want || ok != wantOk {
				t.Errorf("Key(%d, %q) = %q, %v, want %q, %v", rule, value, key, ok, want, wantOk)
			}
		}
	}
}
