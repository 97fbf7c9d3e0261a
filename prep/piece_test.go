package prep_test

import (
	"math"
	"strings"
	"testing"

	"roster/api"
	"roster/prep"
)

func checkPiece(t *testing.T, form, where int, s string) {
	t.Helper()
	want, wantOk := modelPiece(form, where, s)
	if got, ok := prep.Piece(int8(form), int8(where), s); got != want || ok != wantOk {
		t.Errorf("Piece(%d, %d, %s) = %s, %v, want %s, %v", form, where, brief(s), brief(got), ok, brief(want), wantOk)
	}
}

func TestPieceExamples(t *testing.T) {
	for _, c := range []struct {
		form, where int8
		s, want     string
		ok          bool
	}{
		{api.FormFold, api.AtStart, " A ", "a ", true},
		{api.FormFold, api.AtMiddle, " A ", " a ", true},
		{api.FormFold, api.AtEnd, " A ", " a", true},
		{api.FormFold, api.AtStart, " ", "", true},
		{api.FormNumber, api.AtStart, "1", "", false},
		{api.FormDigits, api.AtMiddle, "a", "", false},
	} {
		if got, ok := prep.Piece(c.form, c.where, c.s); got != c.want || ok != c.ok {
			t.Errorf("Piece(%d, %d, %q) = %q, %v", c.form, c.where, c.s, got, ok)
		}
	}
}

func TestPieceOfEachForm(t *testing.T) {
	for _, c := range []struct {
		form                        int8
		s, atStart, atMiddle, atEnd string
	}{
		{api.FormFold, "", "", "", ""},
		{api.FormFold, "   ", "", " ", ""},
		{api.FormFold, "  A  B  ", "a b ", " a b ", " a b"},
		{api.FormFold, "É", "É", "É", "É"},
		{api.FormFold, "\t ", "\t ", "\t ", "\t"},
		{api.FormExact, "", "", "", ""},
		{api.FormExact, "  A  B  ", "A B ", " A B ", " A B"},
		{api.FormExact, "  ", "", " ", ""},
		{api.FormDigits, "", "", "", ""},
		{api.FormDigits, "  ", "", "", ""},
		{api.FormDigits, " 0 12 ", "012", "012", "012"},
		{api.FormPhone, "", "", "", ""},
		{api.FormPhone, "- -", "", "", ""},
		{api.FormPhone, " +4 A-b(", "+4ab(", "+4ab(", "+4ab("},
		{api.FormPhone, "'()+,-./:?=", "'()+,./:?=", "'()+,./:?=", "'()+,./:?="},
	} {
		for where, want := range map[int8]string{api.AtStart: c.atStart, api.AtMiddle: c.atMiddle, api.AtEnd: c.atEnd} {
			if got, ok := prep.Piece(c.form, where, c.s); got != want || !ok {
				t.Errorf("Piece(%d, %d, %q) = %q, %v", c.form, where, c.s, got, ok)
			}
		}
	}
}

func TestPieceRefused(t *testing.T) {
	for _, c := range []struct {
		form int8
		s    string
	}{
		{api.FormFold, "\xff"}, {api.FormFold, "a\xc3"}, {api.FormExact, "\xc3"}, {api.FormExact, "\xed\xa0\x80 "},
		{api.FormDigits, "a"}, {api.FormDigits, "1-2"}, {api.FormDigits, "\xff"}, {api.FormDigits, "1\t"}, {api.FormDigits, "٣"},
		{api.FormPhone, "*"}, {api.FormPhone, "1#"}, {api.FormPhone, "é"}, {api.FormPhone, "\ufffd"}, {api.FormPhone, "\xff"}, {api.FormPhone, "\t"},
		{api.FormNumber, "1"}, {api.FormFlag, "TRUE"}, {api.FormTime, "20240229235959Z"}, {api.FormBytes, "a"}, {api.FormOid, "1.2"},
		{api.FormNumber, ""}, {api.FormFlag, ""}, {api.FormTime, ""}, {api.FormBytes, ""}, {api.FormOid, ""},
	} {
		for where := range int8(3) {
			if got, ok := prep.Piece(c.form, where, c.s); got != "" || ok {
				t.Errorf("Piece(%d, %d, %q) = %q, %v", c.form, where, c.s, got, ok)
			}
		}
	}
}

func TestPieceOfAllFormsAndPlaces(t *testing.T) {
	for form := math.MinInt8; form <= math.MaxInt8; form++ {
		for where := math.MinInt8; where <= math.MaxInt8; where++ {
			for _, s := range []string{"", "1", " "} {
				checkPiece(t, form, where, s)
			}
		}
	}
}

func TestPieceOfAllShortTexts(t *testing.T) {
	for _, s := range rowsOf([]string{" ", "A", "z", "0", "9", "-", "+", "*", "é", "\xc3", "\xa9"}, 4) {
		for form := range formCount {
			for where := range 3 {
				checkPiece(t, form, where, s)
			}
		}
	}
}

func TestPieceOfEachByte(t *testing.T) {
	for form := range formCount {
		for b := range 256 {
			s := string([]byte{byte(b)})
			for where := range 3 {
				checkPiece(t, form, where, s)
				checkPiece(t, form, where, "1"+s+" ")
			}
		}
	}
}

func TestPieceOfTheLongestTexts(t *testing.T) {
	for _, n := range []int{api.MaxText, api.MaxText + 1} {
		for _, s := range longTexts(n) {
			for form := range formCount {
				for where := range 3 {
					checkPiece(t, form, where, s)
				}
			}
		}
	}
	for form, s := range map[int8]string{api.FormFold: " ", api.FormExact: "A", api.FormDigits: "1", api.FormPhone: "-"} {
		if _, ok := prep.Piece(form, api.AtMiddle, strings.Repeat(s, api.MaxText)); !ok {
			t.Errorf("Piece(%d) of MaxText bytes is refused", form)
		}
		if got, ok := prep.Piece(form, api.AtMiddle, strings.Repeat(s, api.MaxText+1)); got != "" || ok {
			t.Errorf("Piece(%d) of MaxText + 1 bytes: %s, %v", form, brief(got), ok)
		}
	}
}
