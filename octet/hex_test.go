package octet_test

import (
	"encoding/hex"
	"strings"
	"testing"

	"roster/api"
	"roster/octet"
)

func TestHexExamples(t *testing.T) {
	if s := octet.Hex("\x00\x7f\xa0"); s != "007fa0" {
		t.Errorf("Hex = %q", s)
	}
	if s, e := octet.Unhex("007fa0"); s != "\x00\x7f\xa0" || e != api.OK {
		t.Errorf("Unhex = %q, %v", s, e)
	}
	for _, bad := range []string{"0", "A0"} {
		s, e := octet.Unhex(bad)
		refused(t, "Unhex", bad, s, e, api.ErrHex)
	}
}

func TestHexOfNothing(t *testing.T) {
	if s := octet.Hex(""); s != "" {
		t.Errorf("Hex = %q", s)
	}
	if s, e := octet.Unhex(""); s != "" || e != api.OK {
		t.Errorf("Unhex = %q, %v", s, e)
	}
}

func TestHexOfAllPairsOfBytes(t *testing.T) {
	for a := range 256 {
		for b := range 256 {
			s := string([]byte{byte(a), byte(b)})
			if got := octet.Hex(s); got != hex.EncodeToString([]byte(s)) {
				t.Errorf("Hex(% x) = %q", s, got)
			}
		}
	}
}

func TestUnhexOfAllPairsOfBytes(t *testing.T) {
	const digits = "0123456789abcdef"
	for a := range 256 {
		for b := range 256 {
			in := string([]byte{byte(a), byte(b)})
			high, low := strings.IndexByte(digits, byte(a)), strings.IndexByte(digits, byte(b))
			s, e := octet.Unhex(in)
			if high < 0 || low < 0 {
				refused(t, "Unhex", in, s, e, api.ErrHex)
			} else if s != string([]byte{byte(16*high + low)}) || e != api.OK {
				t.Errorf("Unhex(%q) = %q, %v", in, s, e)
			}
		}
	}
}

func TestUnhexOfWrongTexts(t *testing.T) {
	for _, bad := range []string{"a", "007", "00f", "00 0", "0x00", "00A0", "000g", "g000", "00\n", " 00", "00é", "\x00\x00"} {
		s, e := octet.Unhex(bad)
		refused(t, "Unhex", bad, s, e, api.ErrHex)
	}
}
