package prep_test

import (
	"math"
	"strings"
	"testing"

	"roster/api"
	"roster/prep"
)

const formCount = 9

func checkKey(t *testing.T, form int, value string) {
	t.Helper()
	want, wantOk := modelKey(form, value)
	if got, ok := prep.Key(int8(form), value); got != want || ok != wantOk {
		t.Errorf("Key(%d, %s) = %s, %v, want %s, %v", form, brief(value), brief(got), ok, brief(want), wantOk)
	}
}

func TestKeyExamples(t *testing.T) {
	for _, c := range []struct {
		form        int8
		value, want string
		ok          bool
	}{
		{api.FormFold, " Ab  C ", "ab c", true},
		{api.FormFold, "   ", " ", true},
		{api.FormFold, "", "", false},
		{api.FormExact, " Ab  C ", "Ab C", true},
		{api.FormDigits, " 1 20", "120", true},
		{api.FormDigits, " ", "", false},
		{api.FormPhone, "+49 (0)30-1 Ab", "+49(0)301ab", true},
		{api.FormPhone, "- -", "", false},
		{api.FormNumber, "0", "\x70\x00\x00\x010", true},
		{api.FormNumber, "42", "\x70\x00\x00\x0242", true},
		{api.FormNumber, "-7", "\x6e\xff\xff\xfe2", true},
		{api.FormNumber, "007", "", false},
		{api.FormNumber, "-0", "", false},
		{api.FormNumber, "+1", "", false},
		{api.FormNumber, "", "", false},
		{api.FormTime, "20240229235959Z", "20240229235959", true},
		{api.FormTime, "20240229235959.50+0130", "202402292229595", true},
		{api.FormTime, "20230229000000Z", "", false},
		{api.FormTime, "00000101000000+0001", "", false},
		{api.FormTime, "99991231235959-0100", "", false},
		{api.FormOid, "Cn-1", "cn-1", true},
		{api.FormOid, "2.5.4.3", "2.5.4.3", true},
		{api.FormOid, "2", "", false},
		{api.FormOid, "2.05", "", false},
		{api.FormOid, "-a", "", false},
	} {
		if got, ok := prep.Key(c.form, c.value); got != c.want || ok != c.ok {
			t.Errorf("Key(%d, %q) = %q, %v", c.form, c.value, got, ok)
		}
	}
}

func TestKeyOfSpacedTexts(t *testing.T) {
	for _, c := range []struct{ value, fold, exact string }{
		{" ", " ", " "},
		{"a", "a", "a"},
		{" A", "a", "A"},
		{"A ", "a", "A"},
		{"  A  B   C  ", "a b c", "A B C"},
		{"É ÀZ", "É Àz", "É ÀZ"},                         // letters of no other alphabet become small
		{"\u212a\u017f", "\u212a\u017f", "\u212a\u017f"}, // nor those that have a letter as their small one
		{"\t A\n", "\t a\n", "\t A\n"},                   // a blank is the byte 20 alone
		{"\u00a0 \u3000", "\u00a0 \u3000", "\u00a0 \u3000"},
		{"@[`{", "@[`{", "@[`{"}, // the neighbours of the letters
		{"\x00", "\x00", "\x00"},
		{"\ufffd", "\ufffd", "\ufffd"},
		{"AZ az 09", "az az 09", "AZ az 09"},
		{"😀  B", "😀 b", "😀 B"},
	} {
		if got, ok := prep.Key(api.FormFold, c.value); got != c.fold || !ok {
			t.Errorf("Key(FormFold, %q) = %q, %v", c.value, got, ok)
		}
		if got, ok := prep.Key(api.FormExact, c.value); got != c.exact || !ok {
			t.Errorf("Key(FormExact, %q) = %q, %v", c.value, got, ok)
		}
	}
	for _, wrong := range []string{"", "\xff", "a\xc3", "\xed\xa0\x80", "\xc0\x80", " \x80 ", "\xf4\x90\x80\x80"} {
		for _, form := range []int8{api.FormFold, api.FormExact} {
			if got, ok := prep.Key(form, wrong); got != "" || ok {
				t.Errorf("Key(%d, %q) = %q, %v", form, wrong, got, ok)
			}
		}
	}
}

func TestKeyOfFlagsAndBytes(t *testing.T) {
	for _, value := range []string{"TRUE", "FALSE"} {
		if got, ok := prep.Key(api.FormFlag, value); got != value || !ok {
			t.Errorf("Key(FormFlag, %q) = %q, %v", value, got, ok)
		}
	}
	for _, wrong := range []string{"", "true", "False", "TRUE ", " TRUE", "TRUEFALSE", "T", "1", "\xff"} {
		if got, ok := prep.Key(api.FormFlag, wrong); got != "" || ok {
			t.Errorf("Key(FormFlag, %q) = %q, %v", wrong, got, ok)
		}
	}
	for _, value := range []string{"", " ", "\x00", "\xff\xfe", " A  b "} {
		if got, ok := prep.Key(api.FormBytes, value); got != value || !ok {
			t.Errorf("Key(FormBytes, %q) = %q, %v", value, got, ok)
		}
	}
}

func TestKeyOfOids(t *testing.T) {
	for value, want := range map[string]string{"a": "a", "Z": "z", "a-": "a-", "a--1": "a--1", "aB0": "ab0", "0.0": "0.0", "1.20.300": "1.20.300", "10.0": "10.0"} {
		if got, ok := prep.Key(api.FormOid, value); got != want || !ok {
			t.Errorf("Key(FormOid, %q) = %q, %v", value, got, ok)
		}
	}
	for _, wrong := range []string{"", " ", "a ", " a", "a.b", "a1.2", "1a", "1.a", "1.", ".1", "1..2", ".", "00.1", "1.00", "1.01", "01.1", "1.-2", "-1.2", "1,2", "é", "a_b", "a\xff", "\u212a", "1.2 "} {
		if got, ok := prep.Key(api.FormOid, wrong); got != "" || ok {
			t.Errorf("Key(FormOid, %q) = %q, %v", wrong, got, ok)
		}
	}
}

// Each byte by itself, and each behind and ahead of one that most forms take.
func TestKeyOfEachByte(t *testing.T) {
	for form := range formCount {
		for b := range 256 {
			s := string([]byte{byte(b)})
			for _, value := range []string{s, s + s, "a" + s, s + "a", "1" + s, s + "1", "1.2" + s, " " + s + "1"} {
				checkKey(t, form, value)
			}
		}
	}
}

func TestKeyOfAllShortTexts(t *testing.T) {
	for _, value := range rowsOf([]string{" ", "A", "z", "0", "1", "9", "-", ".", "+", "(", "é", "É", "\xc3", "\xa9"}, 4) {
		for form := range formCount {
			checkKey(t, form, value)
		}
	}
	for _, value := range rowsOf([]string{"0", "1", "-", "."}, 7) {
		checkKey(t, api.FormNumber, value)
		checkKey(t, api.FormOid, value)
		checkKey(t, api.FormDigits, value)
	}
	for _, value := range rowsOf([]string{" ", "B", "c"}, 8) {
		checkKey(t, api.FormFold, value)
		checkKey(t, api.FormExact, value)
		checkKey(t, api.FormPhone, value)
	}
}

func TestKeyOfNoForm(t *testing.T) {
	for form := math.MinInt8; form <= math.MaxInt8; form++ {
		if 0 <= form && form < formCount {
			continue
		}
		for _, value := range []string{"", "a", "1", "TRUE", "1.2", "20240229235959Z"} {
			if got, ok := prep.Key(int8(form), value); got != "" || ok {
				t.Errorf("Key(%d, %q) = %q, %v", form, value, got, ok)
			}
		}
	}
}

// longTexts are texts of n bytes of which each is a value of some of the forms, if n is not too great.
func longTexts(n int) []string {
	fill := func(s string) string { return strings.Repeat(s, n/len(s)+1)[:n] }
	return []string{
		fill(" "), fill("A"), fill("a "), fill("  B"), fill("1"), fill("9"), fill("1 "), fill("0"), fill("-"),
		fill(" ")[1:] + "7", fill("-")[1:] + "7", "-" + fill("1")[1:], "1." + fill("2")[2:], fill("1.2.")[:n-1] + "3",
		"+" + fill("Ab-1 ")[1:], fill("é")[:n/2*2-2] + fill("x")[:n-(n/2*2-2)], fill("\xff"), "0." + fill("0.")[3:] + "0",
	}
}

func TestKeyOfTheLongestTexts(t *testing.T) {
	for _, n := range []int{api.MaxText - 1, api.MaxText, api.MaxText + 1, api.MaxText + 2, 2 * api.MaxText} {
		for _, value := range longTexts(n) {
			if len(value) != n {
				t.Fatal(brief(value))
			}
			for form := range formCount {
				checkKey(t, form, value)
			}
		}
	}
	for form, value := range map[int8]string{
		api.FormFold: strings.Repeat(" ", api.MaxText), api.FormExact: strings.Repeat("A", api.MaxText),
		api.FormDigits: strings.Repeat("1", api.MaxText), api.FormPhone: strings.Repeat("+", api.MaxText),
		api.FormNumber: strings.Repeat("1", api.MaxText), api.FormBytes: strings.Repeat("\xff", api.MaxText),
		api.FormOid: strings.Repeat("a", api.MaxText),
	} {
		if _, ok := prep.Key(form, value); !ok {
			t.Errorf("Key(%d, %s) is refused", form, brief(value))
		}
		if got, ok := prep.Key(form, value+value[:1]); got != "" || ok {
			t.Errorf("Key(%d) of one byte too many: %s, %v", form, brief(got), ok)
		}
	}
}
