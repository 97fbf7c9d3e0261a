package octet_test

import (
	"strings"
	"testing"
	"unicode/utf8"

	"roster/api"
	"roster/octet"
)

func TestThereAndBack(t *testing.T) {
	for _, s := range texts() {
		if back, e := octet.Unhex(octet.Hex(s)); back != s || e != api.OK {
			t.Errorf("Unhex(Hex(%q)) = %q, %v", s, back, e)
		}
		if back, e := octet.Unescape(octet.Escape(s)); back != s || e != api.OK {
			t.Errorf("Unescape(Escape(%q)) = %q, %v", s, back, e)
		}
		if back, e := octet.Unbase64(octet.Base64(s)); back != s || e != api.OK {
			t.Errorf("Unbase64(Base64(%q)) = %q, %v", s, back, e)
		}
	}
}

func TestEscapeIsValidAndBare(t *testing.T) {
	for _, s := range texts() {
		out := octet.Escape(s)
		if !utf8.ValidString(out) || !octet.Valid(out) || strings.ContainsAny(out, "\x00()*") {
			t.Errorf("Escape(%q) = %q", s, out)
		}
	}
}

func TestUnescapedIsEscapedAndBack(t *testing.T) {
	taken := 0
	for _, s := range texts() {
		out, e := octet.Unescape(s)
		if e != api.OK {
			continue
		}
		taken++
		if again, e := octet.Unescape(octet.Escape(out)); again != out || e != api.OK {
			t.Errorf("Unescape(Escape(%q)) = %q, %v", out, again, e)
		}
	}
	if taken < 100 {
		t.Errorf("only %d of the texts were taken", taken)
	}
}

func TestPieceByPiece(t *testing.T) {
	pieces := []string{"", "a", "é", "\uFFFD", "\x00*", "\\2a", "\\C3", "\\a9", "\\", "2a", "a9", "\xc3", "\xa9", "\xf0\x9f", "\x98\x80", "😀", "(x)"}
	for _, a := range pieces {
		for _, b := range pieces {
			if octet.Hex(a+b) != octet.Hex(a)+octet.Hex(b) {
				t.Errorf("Hex(%q, %q)", a, b)
			}
			if octet.Valid(a) && octet.Escape(a+b) != octet.Escape(a)+octet.Escape(b) {
				t.Errorf("Escape(%q, %q) = %q", a, b, octet.Escape(a+b))
			}
			outA, errA := octet.Unescape(a)
			outB, errB := octet.Unescape(b)
			if errA != api.OK || errB != api.OK {
				continue
			}
			if out, e := octet.Unescape(a + b); out != outA+outB || e != api.OK {
				t.Errorf("Unescape(%q, %q) = %q, %v", a, b, out, e)
			}
		}
	}
}

// What was handed out stays as it was, whatever is asked later: nothing is left behind in the package.
func TestAnswersHangOnTheArgumentAlone(t *testing.T) {
	type answers struct {
		valid                    bool
		hex, escape, base        string
		unhex, unescape, unbase  string
		errHex, errEsc, errBase6 api.Errno
	}
	ask := func(s string) answers {
		a := answers{valid: octet.Valid(s), hex: octet.Hex(s), escape: octet.Escape(s), base: octet.Base64(s)}
		a.unhex, a.errHex = octet.Unhex(s)
		a.unescape, a.errEsc = octet.Unescape(s)
		a.unbase, a.errBase6 = octet.Unbase64(s)
		return a
	}
	all := texts()
	first := make([]answers, len(all))
	for k, s := range all {
		first[k] = ask(s)
	}
	for k := len(all) - 1; k >= 0; k-- {
		if ask(all[k]) != first[k] {
			t.Errorf("%q is answered otherwise the second time", all[k])
		}
	}
}
