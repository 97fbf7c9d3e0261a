package name_test

import (
	"fmt"
	"math/rand"
	"slices"
	"strings"
	"testing"

	"roster/api"
	"roster/name"
	"roster/schema"
)

func keyOf(t *testing.T, s *schema.Schema, n api.Name) string {
	t.Helper()
	key, e := name.Key(s, n)
	if e != api.OK {
		t.Fatalf("Key(%.200q): %v", n, e)
	}
	return key
}

func refusedKey(t *testing.T, s *schema.Schema, n api.Name, want api.Errno) {
	t.Helper()
	if key, e := name.Key(s, n); key != "" || e != want {
		t.Errorf("Key(%.200q) = %s, %v, want %v", n, brief(key), e, want)
	}
}

// step is the key of a part of one pair.
func step(place int, key string) string {
	return fmt.Sprintf("%d=%d:%s;", place, len(key), key)
}

func TestKeyExamples(t *testing.T) {
	s := testSchema(t)
	for text, want := range map[string]string{
		"":                 "",
		"CN=Ada  B,ou=x":   "2=1:x;1=5:ada b;",
		"ou=b+cn=A":        "1=1:a+2=1:b;",
		`seeAlso=cn\=A`:    "3=6:1=1:a;;",
		"photo=":           "4=0:;",
		"objectClass=CN":   "0=7:2.5.4.3;",
		"seeAlso=cn=A":     "3=6:1=1:a;;",
		"objectClass=Cn-1": "0=4:cn-1;",
	} {
		if key := keyOf(t, s, mustParse(t, text)); key != want {
			t.Errorf("Key(%s) = %q", text, key)
		}
	}
	for text, want := range map[string]api.Errno{"zz=a": api.ErrType, "cn=a+CN=b": api.ErrTwice, "cn=": api.ErrValue} {
		refusedKey(t, s, mustParse(t, text), want)
	}
}

func TestKeyOfTypesByAnyName(t *testing.T) {
	s := testSchema(t)
	for word, place := range map[string]int{"cn": 1, "CN": 1, "cN": 1, "commonName": 1, "COMMONNAME": 1, "2.5.4.3": 1, "ou": 2, "2.5.4.11": 2, "oU": 2, "SN": 12, "1.12": 12} {
		if key := keyOf(t, s, named(pairs(word, "A"))); key != step(place, "a") {
			t.Errorf("%s: %q", word, key)
		}
	}
	for _, word := range []string{"name", "c", "cn-", "2.5.4", "2.5.4.33", "person", "2.5.6.6", "top"} {
		refusedKey(t, s, named(pairs(word, "a")), api.ErrType)
	}
}

func TestKeyOfValues(t *testing.T) {
	s := testSchema(t)
	for _, c := range []struct {
		word, value string
		place       int
		key         string
	}{
		{"cn", " Ab  C ", 1, "ab c"}, {"cn", "   ", 1, " "}, {"cn", "É", 1, "É"},
		{"sn", "AB", 12, "ab"}, // by the rule of its Sup
		{"exact", " Ab  C ", 5, "Ab C"},
		{"digits", " 1 20", 6, "120"},
		{"phone", "+49 (0)30-1 Ab", 7, "+49(0)301ab"},
		{"number", "42", 8, "\x70\x00\x00\x0242"}, {"number", "-7", 8, "\x6e\xff\xff\xfe2"},
		{"flag", "TRUE", 9, "TRUE"},
		{"time", "20240229235959.50+0130", 10, "202402292229595"},
		{"bytes", "\x00\xff;+:=", 11, "\x00\xff;+:="}, {"bytes", "", 11, ""},
		{"photo", "\x00 A", 4, "\x00 A"},
		{"bareText", " Ab  C ", 13, " Ab  C "}, {"bareText", " ", 13, " "},
		{"bareDigits", " 1 20", 14, " 1 20"},
		{"barePhone", "1-A", 15, "1-A"},
		{"bareNumber", "-42", 16, "-42"},
		{"bareFlag", "FALSE", 17, "FALSE"},
		{"bareTime", "20240229235959.50+0130", 18, "20240229235959.50+0130"},
		{"bareName", "CN=A,OU=b", 19, "CN=A,OU=b"}, {"bareName", "", 19, ""},
		{"bareOid", "Cn", 20, "Cn"}, {"bareOid", "2.5.4.3", 20, "2.5.4.3"}, {"bareOid", "nobody", 20, "nobody"},
		{"objectClass", "OBJECTCLASS", 0, "2.5.4.0"}, {"objectClass", "2.5.4.0", 0, "2.5.4.0"}, {"objectClass", "commonNAME", 0, "2.5.4.3"}, {"objectClass", "2.5.4.3", 0, "2.5.4.3"},
		{"objectClass", "PERSON", 0, "2.5.6.6"}, {"objectClass", "Human", 0, "2.5.6.6"}, {"objectClass", "2.5.6.6", 0, "2.5.6.6"}, {"objectClass", "TOP", 0, "2.5.6.0"},
		{"objectClass", "OU", 0, "2.5.4.11"}, {"objectClass", "2.5.6.7", 0, "2.5.6.7"}, {"objectClass", "called", 0, "2.5.4.3"},
		{"objectClass", "X1", 0, "x1"}, {"objectClass", "9.9.0", 0, "9.9.0"},
		{"seeAlso", "", 3, ""}, {"owner", "CN=A", 21, "1=1:a;"},
		{"seeAlso", "cn=b+OU=A,commonName=C", 3, "1=1:c;1=1:b+2=1:a;"},
		{"seeAlso", "seeAlso=s=2.5.4.34=cn=A", 3, step(3, step(3, step(3, step(1, "a"))))},
		{"seeAlso", `cn=a\,ou=b`, 3, step(1, "a,ou=b")},
		{"seeAlso", `s=cn=a\,ou=b`, 3, step(3, step(2, "b")+step(1, "a"))},
		{"seeAlso", `s=s=cn=a\\\,ou=b`, 3, step(3, step(3, step(2, "b")+step(1, "a")))},
		{"seeAlso", `cn=\20`, 3, step(1, " ")},
		{"seeAlso", `photo=\FF`, 3, step(4, "\xff")}, {"seeAlso", "photo=\xff", 3, step(4, "\xff")},
		{"seeAlso", "n=CN=A", 3, step(19, "CN=A")},
		{"bareName", "s=CN=A", 19, "s=CN=A"},
		{"seeAlso", "objectClass=PERSON", 3, step(0, "2.5.6.6")},
	} {
		if key := keyOf(t, s, named(pairs(c.word, c.value))); key != step(c.place, c.key) {
			t.Errorf("Key(%s %q) = %q, want %q", c.word, c.value, key, step(c.place, c.key))
		}
	}
}

func TestKeyOfWrongValues(t *testing.T) {
	s := testSchema(t)
	for word, values := range map[string][]string{
		"cn":          {"", "\xff", "a\xc3"},
		"sn":          {""},
		"exact":       {"", "\xff"},
		"digits":      {"", " ", "a", "1-2"},
		"phone":       {"", "-", "é", "#"},
		"number":      {"", "01", "-0", "+1", " 1", "a"},
		"flag":        {"", "true", "T"},
		"time":        {"", "20230229000000Z", "20240229235959"},
		"bareText":    {"", "\xff"},
		"bareDigits":  {"", " ", "a"},
		"barePhone":   {"", "--", "é"},
		"bareNumber":  {"", "01", "x"},
		"bareFlag":    {"", "false"},
		"bareTime":    {"", "1"},
		"bareName":    {"a", "cn", "cn=", "zz=a", "cn=a+cn=b", "cn= a", "s=cn", ",", "cn=a,"},
		"bareOid":     {"", "1", "01.2", "a b", "a.b", "é"},
		"objectClass": {"", "1", "01.2", " cn", "cn ", "é", "a_b"},
		"seeAlso":     {"a", "cn", "cn=", "zz=a", "cn=a+CN=b", "cn= a", "cn=a ", "cn=#", `cn=\zz`, "s=cn", "s=cn=", "s=zz=a", ",", "cn=a,", "1=a", "number=x", "n=cn", "\xff"},
		"owner":       {"a", "zz=a"},
	} {
		for _, value := range values {
			refusedKey(t, s, named(pairs(word, value)), api.ErrValue)
		}
	}
}

func TestKeyOfNames(t *testing.T) {
	s := testSchema(t)
	for _, c := range []struct {
		n    api.Name
		want string
	}{
		{named(pairs("cn", "a"), pairs("cn", "b"), pairs("cn", "c")), "1=1:c;1=1:b;1=1:a;"},
		{named(pairs("sn", "c", "ou", "b", "cn", "a")), "1=1:a+2=1:b+12=1:c;"},
		{named(pairs("cn", "a", "sn", "c", "ou", "b")), "1=1:a+2=1:b+12=1:c;"},
		{named(pairs("ou", "x", "cn", "a"), pairs("photo", "", "objectClass", "q")), "0=1:q+4=0:;1=1:a+2=1:x;"},
		{named(pairs("photo", ";+1=1:")), "4=6:;+1=1:;"},
		{named(pairs("exact", strings.Repeat("x", 1000)), pairs("ou", "1234567890")), "2=10:1234567890;5=1000:" + strings.Repeat("x", 1000) + ";"},
	} {
		if key := keyOf(t, s, c.n); key != c.want {
			t.Errorf("Key(%q) = %q, want %q", c.n, key, c.want)
		}
	}
	// Eight pairs in each of their orders have one key.
	words := []string{"objectClass", "cn", "ou", "photo", "exact", "digits", "bytes", "sn"}
	want := keyOf(t, s, named(eight(words)))
	r := rand.New(rand.NewSource(8))
	for range 100 {
		r.Shuffle(len(words), func(i, j int) { words[i], words[j] = words[j], words[i] })
		if key := keyOf(t, s, named(eight(words))); key != want {
			t.Errorf("%q: %q, want %q", words, key, want)
		}
	}
}

func eight(words []string) []string {
	values := map[string]string{"objectClass": "top", "cn": "b", "ou": "a", "photo": "", "exact": "X", "digits": "1", "bytes": "\x00", "sn": "z"}
	var all []string
	for _, word := range words {
		all = append(all, word, values[word])
	}
	return all
}

// Where there are several errors, the first pair that has one counts, and of its own the first.
func TestKeyOfSeveralErrors(t *testing.T) {
	s := testSchema(t)
	long := strings.Repeat("x", api.MaxText)
	for _, c := range []struct {
		n    api.Name
		want api.Errno
	}{
		{named(pairs("zz", "a"), pairs("cn", "a", "cn", "b")), api.ErrType},
		{named(pairs("cn", "a", "cn", "b"), pairs("zz", "a")), api.ErrTwice},
		{named(pairs("cn", "", "zz", "a")), api.ErrValue},
		{named(pairs("zz", "a", "cn", "")), api.ErrType},
		{named(pairs("cn", "", "cn", "")), api.ErrValue},
		{named(pairs("cn", "a", "2.5.4.3", "")), api.ErrTwice},
		{named(pairs("cn", "a", "commonName", "a")), api.ErrTwice},
		{named(pairs("cn", "a", "ou", "", "cn", "b")), api.ErrValue},
		{named(pairs("cn", "a", "ou", "b", "zz", "", "cn", "b")), api.ErrType},
		{named(pairs("ou", "b", "cn", "a", "sn", "c", "OU", "b")), api.ErrTwice},
		{named(pairs("zz", "", "zz", "")), api.ErrType},
		{named(pairs("cn", ""), pairs("zz", "a")), api.ErrValue},
		{named(pairs("cn", "a"), pairs("cn", "b"), pairs("cn", "")), api.ErrValue},
		{named(pairs("zz", "a"), pairs()), api.ErrName},
		{named(pairs("zz", "a"), pairs("c n", "")), api.ErrName},
		{named(pairs("1", "a")), api.ErrName},
		{named(pairs("zz", long)), api.ErrLong},
		{named(pairs("cn", "a", "cn", long)), api.ErrLong},
		{named(pairs("cn", ""), pairs("ou", strings.Repeat("\x01", 21845))), api.ErrLong},
		{named(slices.Repeat(pairs("zz", ""), 9)), api.ErrLong},
		{named(slices.Repeat([][]string{pairs("zz", "")}, 65)...), api.ErrLong},
		{api.Name{Rdns: make([]api.Rdn, 65)}, api.ErrLong},
		{api.Name{Rdns: make([]api.Rdn, 1)}, api.ErrName},
	} {
		refusedKey(t, s, c.n, c.want)
		refusedKey(t, nil, c.n, api.ErrNil)
	}
	refusedKey(t, nil, api.Name{}, api.ErrNil)
	refusedKey(t, nil, named(pairs("cn", "a")), api.ErrNil)
}

func TestKeyOfEachWordAndValue(t *testing.T) {
	s := testSchema(t)
	for _, word := range someWords {
		for _, value := range someValues {
			checkKey(t, s, named(pairs(word, value)))
		}
	}
}

func TestKeyOfMixedNames(t *testing.T) {
	s := testSchema(t)
	r := rand.New(rand.NewSource(3))
	for range 3000 {
		checkKey(t, s, someName(r, someWords, someValues))
		checkKey(t, s, someName(r, []string{"cn", "OU", "sn", "photo", "bytes", "bareText"}, []string{"a", "B", " c", "cn=a"}))
	}
}

// Names within names, with values of bytes that need escapes: none has more bytes when it is printed than where it stands.
func TestKeyOfNamesWithinNames(t *testing.T) {
	s := testSchema(t)
	r := rand.New(rand.NewSource(4))
	for range 1500 {
		value := mixedValue(r)
		for range r.Intn(4) {
			word := []string{"s", "n", "owner", "photo", "cn", "1.2"}[r.Intn(6)]
			n := named(pairs(word, value))
			if r.Intn(3) == 0 {
				n.Rdns[0].Avas = append(n.Rdns[0].Avas, api.Ava{Type: "ou", Value: mixedValue(r)})
			}
			if r.Intn(3) == 0 {
				n.Rdns = append(n.Rdns, rdn("bytes", mixedValue(r)))
			}
			checkKey(t, s, n)
			value, _ = name.Print(n)
		}
	}
}

func mixedValue(r *rand.Rand) string {
	value := ""
	for range r.Intn(4) {
		value += []string{"a", " ", "\x01", "\xff", "é", ",", "+", `\`, "#", "="}[r.Intn(10)]
	}
	return value
}

func TestKeyOfDeepNames(t *testing.T) {
	s := testSchema(t)
	const deep = 3000
	want := step(1, "a")
	for range deep {
		want = step(3, want)
	}
	if key := keyOf(t, s, mustParse(t, strings.Repeat("s=", deep)+"cn=A")); key != want {
		t.Errorf("%s, want %s", brief(key), brief(want))
	}
	refusedKey(t, s, mustParse(t, strings.Repeat("s=", deep)+"cn="), api.ErrValue)
	if key := keyOf(t, s, mustParse(t, strings.Repeat("n=", deep))); key != step(19, strings.Repeat("n=", deep-1)) {
		t.Errorf("%s", brief(key))
	}
}

func TestKeyOfLongNames(t *testing.T) {
	s := testSchema(t)
	value := strings.Repeat("X", api.MaxText-len("cn="))
	if key := keyOf(t, s, named(pairs("cn", value))); key != step(1, strings.ToLower(value)) {
		t.Errorf("%s", brief(key))
	}
	refusedKey(t, s, named(pairs("cn", value+"X")), api.ErrLong)
	inner := "cn=" + strings.Repeat("X", api.MaxText-len("s=cn="))
	if key := keyOf(t, s, named(pairs("s", inner))); key != step(3, step(1, strings.ToLower(inner[3:]))) {
		t.Errorf("%s", brief(key))
	}
	// A key may be longer than any text.
	parts := slices.Repeat([][]string{pairs("n", "")}, 64)
	if key := keyOf(t, s, named(parts...)); key != strings.Repeat("19=0:;", 64) {
		t.Errorf("%s", brief(key))
	}
	number := strings.Repeat("9", api.MaxText-len("number="))
	if key := keyOf(t, s, named(pairs("number", number))); len(key) != len("8=65533:;")+4+len(number) {
		t.Errorf("%s, %d bytes", brief(key), len(key))
	}
}
