package octet_test

import (
	"encoding/base64"
	"strings"
	"testing"

	"roster/api"
	"roster/octet"
)

func TestBase64Examples(t *testing.T) {
	for s, want := range map[string]string{"a": "YQ==", "ab": "YWI=", "abc": "YWJj", "": ""} {
		if got := octet.Base64(s); got != want {
			t.Errorf("Base64(%q) = %q", s, got)
		}
	}
	if s, e := octet.Unbase64("YQ=="); s != "a" || e != api.OK {
		t.Errorf("Unbase64 = %q, %v", s, e)
	}
	for _, bad := range []string{"YR==", "YQ", "YQ==YQ==", "Y Q="} {
		s, e := octet.Unbase64(bad)
		refused(t, "Unbase64", bad, s, e, api.ErrBase)
	}
}

func TestBase64OfShortTexts(t *testing.T) {
	check := func(b ...byte) {
		want := base64.StdEncoding.EncodeToString(b)
		if got := octet.Base64(string(b)); got != want {
			t.Errorf("Base64(% x) = %q, want %q", b, got, want)
		}
		if got, e := octet.Unbase64(want); got != string(b) || e != api.OK {
			t.Errorf("Unbase64(%q) = %q, %v", want, got, e)
		}
	}
	check()
	for a := range 256 {
		check(byte(a))
		for b := range 256 {
			check(byte(a), byte(b))
			check(byte(a), byte(b), byte(a^b))
			check(byte(a), byte(b), 0, byte(b), byte(a))
		}
	}
}

func TestBase64HasAllSignsInOrder(t *testing.T) {
	const signs = "ABCDEFGHIJKLMNOPQRSTUVWXYZabcdefghijklmnopqrstuvwxyz0123456789+/"
	for v := range 64 {
		four := "A" + signs[v:v+1] + "AA"
		if got := octet.Base64(string([]byte{byte(v >> 4), byte(v << 4), 0})); got != four {
			t.Errorf("value %d: %q, want %q", v, got, four)
		}
	}
}

// A text of four signs is taken just if writing what it says anew gives it again.
func TestUnbase64OfFourSigns(t *testing.T) {
	const signs = "ABEIPQYZagwz059+/=-_ \n\r.\x00\xff"
	for _, a := range []byte(signs) {
		for _, b := range []byte(signs) {
			for _, c := range []byte(signs) {
				for _, d := range []byte(signs) {
					checkUnbase64(t, string([]byte{a, b, c, d}))
				}
			}
		}
	}
}

func TestUnbase64OfEachLastSign(t *testing.T) {
	for a := range 256 {
		s := string([]byte{byte(a)})
		for _, in := range []string{"A" + s + "==", "AA" + s + "=", "AAA" + s, s + "AAA", "YWJj" + s + "AAA"} {
			checkUnbase64(t, in)
		}
	}
}

func checkUnbase64(t *testing.T, in string) {
	t.Helper()
	want, err := base64.StdEncoding.DecodeString(in)
	s, e := octet.Unbase64(in)
	if err != nil || base64.StdEncoding.EncodeToString(want) != in {
		refused(t, "Unbase64", in, s, e, api.ErrBase)
	} else if s != string(want) || e != api.OK {
		t.Errorf("Unbase64(%q) = %q, %v", in, s, e)
	}
}

func TestUnbase64OfWrongTexts(t *testing.T) {
	for _, bad := range []string{"Y", "YW", "YWJ", "YWJjY", "YWJjYQ", "YWJjYWI", "=", "==", "===", "====", "Y===", "=YQ=", "YQ=a", "YWI=YWJj", "YWJj====", "YWJjYQ=", "YQ==\n", "\nYQ==", "YWJj\n", "YW\nJj", "YWJ=", "YWJjYR==", "YW-_", strings.Repeat("YWJj", 1000) + "YWJ="} {
		s, e := octet.Unbase64(bad)
		refused(t, "Unbase64", bad, s, e, api.ErrBase)
	}
}
