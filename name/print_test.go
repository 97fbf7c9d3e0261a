package name_test

import (
	"math/rand"
	"strings"
	"testing"

	"roster/api"
	"roster/name"
)

func checkPrint(t *testing.T, n api.Name) {
	t.Helper()
	want, wantE := modelPrint(n)
	if got, e := name.Print(n); got != want || e != wantE {
		t.Errorf("Print(%.200q) = %s, %v, want %s, %v", n, brief(got), e, brief(want), wantE)
	}
}

func refusedPrint(t *testing.T, n api.Name, want api.Errno) {
	t.Helper()
	if got, e := name.Print(n); got != "" || e != want {
		t.Errorf("Print(%.200q) = %s, %v, want %v", n, brief(got), e, want)
	}
}

func TestPrintExamples(t *testing.T) {
	for value, want := range map[string]string{" #a=b ": `cn=\ #a=b\ `, "#": `cn=\#`, "\x0a\xff": `cn=\0a\ff`} {
		if got, e := name.Print(named(pairs("cn", value))); got != want || e != api.OK {
			t.Errorf("Print(cn %q) = %q, %v", value, got, e)
		}
	}
	if got, e := name.Print(api.Name{}); got != "" || e != api.OK {
		t.Errorf("%q, %v", got, e)
	}
	refusedPrint(t, api.Name{Rdns: []api.Rdn{{}}}, api.ErrName)
	refusedPrint(t, named(pairs("c n", "a")), api.ErrName)
	refusedPrint(t, api.Name{Rdns: make([]api.Rdn, 65)}, api.ErrLong)
}

func TestPrintOfValues(t *testing.T) {
	for value, want := range map[string]string{
		"":                             "",
		" ":                            `\ `,
		"  ":                           `\ \ `,
		"   ":                          `\  \ `,
		" a":                           `\ a`,
		"a ":                           `a\ `,
		"a b":                          "a b",
		"##":                           `\##`,
		"a#":                           "a#",
		" #":                           `\ #`,
		"# ":                           `\#\ `,
		"a=b":                          "a=b",
		"\"+,;<>\\":                    `\"\+\,\;\<\>\\`,
		"\x00\x1f\x20\x21":             `\00\1f !`,
		"~\x7f\u0080":                  "~\\7f\u0080",
		"\t\r\n":                       `\09\0d\0a`,
		"é€😀":                          "é€😀",
		"\ufffd":                       "\ufffd",
		"\xc3":                         `\c3`,
		"\xa9\xc3":                     `\a9\c3`,
		"\xc3\xa9\xa9":                 "é\\a9",
		"\xe2\x82":                     `\e2\82`,
		"\xe2\x82a":                    `\e2\82a`,
		"\xed\xa0\x80":                 `\ed\a0\80`,
		"\xf4\x90\x80\x80":             `\f4\90\80\80`,
		"\xc0\x80":                     `\c0\80`,
		"\xf0\x9f\x98":                 `\f0\9f\98`,
		"\xf0\x9f\x98\xf0\x9f\x98\x80": "\\f0\\9f\\98😀",
		"\u00a0":                       "\u00a0",
	} {
		if got, e := name.Print(named(pairs("a", value))); got != "a="+want || e != api.OK {
			t.Errorf("Print(a %q) = %q, %v", value, got, e)
		}
		if got, e := name.Print(named(pairs("a", value, "b", ""), pairs("1.2", value, "C", value))); got != "a="+want+"+b=,1.2="+want+"+C="+want || e != api.OK {
			t.Errorf("Print(%q) = %q, %v", value, got, e)
		}
	}
}

func TestPrintOfEachByte(t *testing.T) {
	for b := range 256 {
		s := string([]byte{byte(b)})
		for _, value := range []string{s, s + s, "x" + s, s + "x", "x" + s + "x", "\xc3" + s, s + "\xa9", "\xe2\x82" + s, " " + s + " ", "#" + s} {
			checkPrint(t, named(pairs("a", value)))
		}
		for _, word := range []string{s, "a" + s, s + "a", "1" + s + "2", "1.2" + s, s + "1.2", "1." + s} {
			checkPrint(t, named(pairs(word, "x")))
		}
	}
}

func TestPrintOfAllShortTexts(t *testing.T) {
	for _, value := range rowsOf([]string{" ", "#", "a", `\`, ",", "\xc3", "\xa9", "\x00"}, 4) {
		checkPrint(t, named(pairs("a", value)))
	}
	for _, word := range rowsOf([]string{"a", "-", "0", "1", ".", "="}, 5) {
		checkPrint(t, named(pairs(word, "")))
	}
}

func TestPrintOfMixedNames(t *testing.T) {
	r := rand.New(rand.NewSource(2))
	words := append([]string{"", "c n", "1", "a;b", "01.2"}, someWords...)
	for range 3000 {
		n := someName(r, words, someValues)
		if r.Intn(20) == 0 {
			n.Rdns = append(n.Rdns, api.Rdn{})
		}
		checkPrint(t, n)
	}
}

func TestPrintOfManyParts(t *testing.T) {
	parts := func(n int) (all [][]string) {
		for range n {
			all = append(all, pairs("a", "b"))
		}
		return all
	}
	many := func(n int) (all []string) {
		for range n {
			all = append(all, "a", "b")
		}
		return all
	}
	if got, e := name.Print(named(parts(64)...)); got != strings.Repeat(",a=b", 64)[1:] || e != api.OK {
		t.Errorf("%q, %v", got, e)
	}
	if got, e := name.Print(named(many(8))); got != strings.Repeat("+a=b", 8)[1:] || e != api.OK {
		t.Errorf("%q, %v", got, e)
	}
	refusedPrint(t, named(parts(65)...), api.ErrLong)
	refusedPrint(t, named(many(9)), api.ErrLong)
	refusedPrint(t, named(pairs("a", "b"), many(9)), api.ErrLong)
	refusedPrint(t, api.Name{Rdns: make([]api.Rdn, 64)}, api.ErrName)
	// Too many parts and pairs count ahead of parts and types that are wrong, wherever these stand.
	refusedPrint(t, named(append(parts(64), pairs())...), api.ErrLong)
	refusedPrint(t, named(pairs(), many(9)), api.ErrLong)
	refusedPrint(t, named(pairs("", ""), many(9)), api.ErrLong)
	refusedPrint(t, named(append([][]string{pairs("", "")}, parts(64)...)...), api.ErrLong)
	refusedPrint(t, named(append(many(7), "", "", "", "")), api.ErrLong)
	refusedPrint(t, named(append(many(7), "", "")), api.ErrName)
}

func TestPrintOfLongTexts(t *testing.T) {
	fill := func(s string, n int) string { return strings.Repeat(s, n/len(s)+1)[:n] }
	longest := fill("x", api.MaxText-2)
	if got, e := name.Print(named(pairs("a", longest))); got != "a="+longest || e != api.OK {
		t.Errorf("%s, %v", brief(got), e)
	}
	word := fill("a", api.MaxText-1)
	if got, e := name.Print(named(pairs(word, ""))); got != word+"=" || e != api.OK {
		t.Errorf("%s, %v", brief(got), e)
	}
	for _, n := range []api.Name{
		named(pairs("a", longest+"x")),
		named(pairs("aa", longest)),
		named(pairs("a", ","+longest[1:])),
		named(pairs("a", "\xff"+longest[2:])),
		named(pairs("a", " "+longest[1:])),
		named(pairs("a", longest[1:]+" ")),
		named(pairs("a", " "+longest[3:]+" ")),
		named(pairs("a", "#"+longest[1:])),
		named(pairs("a", ""), pairs("a", longest[2:])),
		named(pairs("a", "", "a", longest[2:])),
		named(pairs("a", longest[2:], "a", "")),
		named(pairs("a", longest[2:]), pairs("b", "")),
		named(pairs("a", fill("\xff", 21845))),
		named(pairs("a", fill("\x01", 21845))),
		named(pairs("a", fill(",", 32768))),
		named(pairs(word+"a", "")),
		named(pairs("a", fill("x", 1<<22))),
		named(pairs(fill("a", 1<<22), "")),
		named(pairs(fill("1.", 1<<20)+"1", "")),
	} {
		refusedPrint(t, n, api.ErrLong)
	}
	for _, n := range []api.Name{
		named(pairs("a", ","+longest[2:])),
		named(pairs("a", "\xff"+longest[3:])),
		named(pairs("a", " "+longest[4:]+" ")),
		named(pairs("a", "#"+longest[2:])),
		named(pairs("a", ""), pairs("a", longest[3:])),
		named(pairs("a", "", "a", longest[3:])),
		named(pairs("a", longest[3:], "a", "")),
		named(pairs("a", fill("\xff", 21844))),
		named(pairs("a", fill(",", 32767))),
	} {
		checkPrint(t, n)
		if _, e := name.Print(n); e != api.OK {
			t.Errorf("Print(%.100q): %v", n, e)
		}
	}
	// A wrong type counts ahead of a text that is too long, wherever it stands.
	refusedPrint(t, named(pairs("a", longest+"x"), pairs("c n", "")), api.ErrName)
	refusedPrint(t, named(pairs("a", longest+"x"), pairs()), api.ErrName)
	refusedPrint(t, named(pairs(word+"a", ""), pairs("1", "")), api.ErrName)
	refusedPrint(t, named(pairs(word+"a_", "")), api.ErrName)
}
