package prep_test

import (
	"strings"
	"testing"

	"roster/api"
	"roster/prep"
)

func TestSoundExamples(t *testing.T) {
	for s, want := range map[string]string{
		"Robert Rupert": "R163 R163",
		"Tymczak":       "T522",
		"Pfister":       "P236",
		"12":            "",
		"a-b":           "A000 B000",
		"":              "",
		"Ashcraft":      "A261", // h does not part s and c
		"Ashcroft":      "A261",
		"Burroughs":     "B620",
		"Honeyman":      "H555",
		"Jackson":       "J250",
		"Gauss":         "G200",
		"Lukasiewicz":   "L222",
		"Bwb":           "B000", // the first letter's own digit, with w between
		"Bab":           "B100", // a vowel parts them
		"Bfpv":          "B000",
		"Hhb":           "H100",
		"Whb":           "W100",
		"hb wb":         "H100 W100",
		"aeiouyhw":      "A000",
		"Sch":           "S000",
		"abcdefghij":    "A123",
	} {
		if got := prep.Sound(s); got != want {
			t.Errorf("Sound(%q) = %q, want %q", s, got, want)
		}
	}
}

func TestSoundOfEachLetter(t *testing.T) {
	digits := map[string]string{"bfpv": "1", "cgjkqsxz": "2", "dt": "3", "l": "4", "mn": "5", "r": "6", "aeiouyhw": "0"}
	seen := 0
	for letters, digit := range digits {
		for _, letter := range strings.Split(letters, "") {
			seen++
			for _, l := range []string{letter, strings.ToUpper(letter)} {
				if got := prep.Sound("a" + l); got != "A"+digit+"00" {
					t.Errorf("Sound(a%s) = %q", l, got)
				}
				if got := prep.Sound(l); got != strings.ToUpper(letter)+"000" {
					t.Errorf("Sound(%s) = %q", l, got)
				}
			}
		}
	}
	if seen != 26 {
		t.Error(seen)
	}
}

func TestSoundOfAllPairsAndThrees(t *testing.T) {
	for _, a := range small {
		for _, b := range great {
			for _, c := range small {
				for _, s := range []string{a + b + c, "a" + a + b + c} {
					if got, want := prep.Sound(s), modelSound(s); got != want {
						t.Errorf("Sound(%q) = %q, want %q", s, got, want)
					}
				}
			}
		}
	}
}

func TestSoundOfAllShortTexts(t *testing.T) {
	for _, s := range rowsOf([]string{"B", "f", "c", "a", "H", "w", "r", " ", "é"}, 5) {
		if got, want := prep.Sound(s), modelSound(s); got != want {
			t.Fatalf("Sound(%q) = %q, want %q", s, got, want)
		}
	}
}

// Whatever is no letter ends a row: other alphabets' letters, bytes that stand alone, digits.
func TestSoundOfEachByteBetweenLetters(t *testing.T) {
	for b := range 256 {
		for _, s := range []string{"b" + string([]byte{byte(b)}) + "b", string([]byte{byte(b), byte(b)}), " " + string([]byte{byte(b)}) + "\xc3"} {
			if got, want := prep.Sound(s), modelSound(s); got != want {
				t.Errorf("Sound(%q) = %q, want %q", s, got, want)
			}
		}
	}
	for _, s := range []string{"bébb", "b\u212ab", "b\u017fb", "b\xc3b", "b\xed\xa0\x80b", "b\x00b", "b1b", "b'b", "b  b"} {
		if got := prep.Sound(s); got != modelSound(s) || !strings.Contains(got, " ") {
			t.Errorf("Sound(%q) = %q", s, got)
		}
	}
}

// There is no bound for how long a text may be of which the sound is asked.
func TestSoundOfLongTexts(t *testing.T) {
	if got := prep.Sound(strings.Repeat("Robert ", api.MaxText)); got != strings.TrimSuffix(strings.Repeat("R163 ", api.MaxText), " ") {
		t.Error(brief(got))
	}
	if got := prep.Sound("s" + strings.Repeat("h", 2*api.MaxText) + "cr"); got != "S600" {
		t.Error(brief(got))
	}
	if got := prep.Sound(strings.Repeat("-", 2*api.MaxText)); got != "" {
		t.Error(brief(got))
	}
}
