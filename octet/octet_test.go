package octet_test

import (
	"strings"
	"testing"
	"unicode/utf8"

	"roster/api"
	"roster/octet"
)

// rows is the chapter's table of characters: the lowest and the highest byte at each place.
var rows = [][][2]byte{
	{{0x00, 0x7f}},
	{{0xc2, 0xdf}, {0x80, 0xbf}},
	{{0xe0, 0xe0}, {0xa0, 0xbf}, {0x80, 0xbf}},
	{{0xe1, 0xec}, {0x80, 0xbf}, {0x80, 0xbf}},
	{{0xed, 0xed}, {0x80, 0x9f}, {0x80, 0xbf}},
	{{0xee, 0xef}, {0x80, 0xbf}, {0x80, 0xbf}},
	{{0xf0, 0xf0}, {0x90, 0xbf}, {0x80, 0xbf}, {0x80, 0xbf}},
	{{0xf1, 0xf3}, {0x80, 0xbf}, {0x80, 0xbf}, {0x80, 0xbf}},
	{{0xf4, 0xf4}, {0x80, 0x8f}, {0x80, 0xbf}, {0x80, 0xbf}},
}

// corners gives every text that has, at each place of the row, the lowest or the highest byte.
func corners(row [][2]byte) []string {
	all := []string{""}
	for _, place := range row {
		var longer []string
		for _, s := range all {
			longer = append(longer, s+string(place[:1]), s+string(place[1:]))
		}
		all = longer
	}
	return all
}

// refused holds that a call answered this error and, beside it, nothing.
func refused(t *testing.T, call, in, out string, got, want api.Errno) {
	t.Helper()
	if out != "" || got != want {
		t.Errorf("%s(%q) = %q, %v; want error %d and nothing beside it", call, in, out, got, want)
	}
}

// texts gives many texts, always the same ones, in which pieces that mean something meet each other in all ways.
func texts() []string {
	pieces := []string{"", "a", "Zz", "0", "\x00", "\x7f", "(", ")", "*", "\\", "\\2a", "\\5C", "=", "é", "€", "😀", "\uFFFD", "\xc3", "\xe2\x82", "\xf0\x9f\x98", "\x80", "\xbf", "\xff", "\xed\xa0\x80", "\xc0\x80", "\xf4\x90\x80\x80"}
	var all []string
	for _, a := range pieces {
		for _, b := range pieces {
			for _, c := range pieces {
				all = append(all, a+b+c)
			}
		}
	}
	state := uint32(1)
	for n := range 400 {
		var s strings.Builder
		for range n % 40 {
			state = state*1664525 + 1013904223
			s.WriteByte(byte(state >> 24))
		}
		all = append(all, s.String())
	}
	return all
}

func TestErrorNumbers(t *testing.T) {
	got := [4]api.Errno{api.ErrUTF, api.ErrHex, api.ErrEscape, api.ErrBase}
	if got != [4]api.Errno{10, 11, 12, 13} {
		t.Error(got)
	}
}

func TestValidExamples(t *testing.T) {
	for s, want := range map[string]bool{"é": true, "\xc3": false, "\xed\xa0\x80": false, "": true} {
		if octet.Valid(s) != want {
			t.Errorf("Valid(%q) = %v", s, !want)
		}
	}
}

func TestValidRowsAtTheirEnds(t *testing.T) {
	for _, row := range rows {
		for _, c := range corners(row) {
			if !octet.Valid(c) || !octet.Valid("a"+c+c+"é") {
				t.Errorf("Valid(% x) = false: it is a character", c)
			}
			for cut := 1; cut < len(c); cut++ {
				if octet.Valid(c[:cut]) || octet.Valid(c[:cut]+"a") || octet.Valid(c[:cut]+c) || octet.Valid(c[cut:]) {
					t.Errorf("Valid of % x, cut at %d, is true", c, cut)
				}
			}
		}
	}
}

func TestValidRowsOnePastTheirEnds(t *testing.T) {
	for _, row := range rows[1:] {
		for _, c := range corners(row) {
			for place := 1; place < len(c); place++ {
				for _, b := range []byte{row[place][0] - 1, row[place][1] + 1} {
					s := c[:place] + string([]byte{b}) + c[place+1:]
					if octet.Valid(s) {
						t.Errorf("Valid(% x) = true", s)
					}
				}
			}
		}
	}
	for _, s := range []string{"\x80", "\xbf", "\xc0\x80", "\xc1\xbf", "\xe0\x9f\xbf", "\xed\xbf\xbf", "\xf0\x8f\xbf\xbf", "\xf5\x80\x80\x80", "\xf8\x88\x80\x80\x80", "\xfe", "\xff"} {
		if octet.Valid(s) || octet.Valid("a"+s) || octet.Valid(s+"a") {
			t.Errorf("Valid(% x) = true", s)
		}
	}
}

func TestValidOfAllShortTexts(t *testing.T) {
	edges := []byte{0x00, 0x7f, 0x80, 0x8f, 0x90, 0x9f, 0xa0, 0xbf, 0xc0, 0xff}
	check := func(s string) {
		if octet.Valid(s) != utf8.ValidString(s) {
			t.Errorf("Valid(% x) = %v", s, octet.Valid(s))
		}
	}
	for a := range 256 {
		check(string([]byte{byte(a)}))
		for b := range 256 {
			check(string([]byte{byte(a), byte(b)}))
			for _, c := range edges {
				check(string([]byte{byte(a), byte(b), c}))
				for _, d := range edges {
					check(string([]byte{byte(a), byte(b), c, d}))
				}
			}
		}
	}
}

// The sign that stands in for what cannot be read is a character of its own: it must not be taken for a byte that stands alone.
func TestValidOfTheReplacementSign(t *testing.T) {
	if !octet.Valid("\uFFFD") || !octet.Valid("a\uFFFDb") || octet.Valid("\uFFFD\xef") || octet.Valid("\xef\uFFFD") {
		t.Error("the bytes ef bf bd are a character")
	}
}

func TestValidOfLongTexts(t *testing.T) {
	long := strings.Repeat("aé€😀", 1<<17)
	if !octet.Valid(long) || octet.Valid(long+"\xf0\x9f\x98") {
		t.Error("a byte that stands alone at a long text's end")
	}
}
