package prep

import (
	"strings"
	"unicode/utf8"

	"roster/api"
	"roster/octet"
)

const blank = " "

// phoneSigns are what a phone's number has beside letters, digits and blanks.
const phoneSigns = "'()+,-./:?="

// spacedForm is the form of texts in which it does not count how many blanks stand together, nor whether any stand at the ends.
type spacedForm struct {
	small bool // letters become small ones
}

func (f spacedForm) key(value string) (string, bool) {
	if value == "" || !octet.Valid(value) {
		return "", false
	}
	inner := strings.Trim(f.joined(value), blank)
	if inner == "" {
		return blank, true // a value of blanks is a value: its key must not be the empty text
	}
	return inner, true
}

func (f spacedForm) piece(where int8, s string) (string, bool) {
	if !octet.Valid(s) {
		return "", false
	}
	out := f.joined(s)
	switch where { // a key has no blank at its ends, so that a piece there needs none
	case api.AtStart:
		out = strings.TrimPrefix(out, blank)
	case api.AtEnd:
		out = strings.TrimSuffix(out, blank)
	}
	return out, true
}

// joined has one blank for each run of blanks of s, which is well-formed.
func (f spacedForm) joined(s string) string {
	out := make([]byte, 0, len(s))
	ahead := rune(0)
	for _, r := range s {
		if r == ' ' && ahead == ' ' {
			continue
		}
		ahead = r
		if f.small {
			r = smallLetter(r)
		}
		out = utf8.AppendRune(out, r)
	}
	return string(out)
}

// digitForm is the form of rows of digits that blanks may part.
type digitForm struct{}

func (f digitForm) key(value string) (string, bool) {
	out, ok := f.kept(value)
	return out, ok && out != ""
}

func (f digitForm) piece(_ int8, s string) (string, bool) {
	return f.kept(s)
}

func (f digitForm) kept(s string) (string, bool) {
	out := make([]byte, 0, len(s))
	for k := range len(s) {
		switch {
		case isDigit(rune(s[k])):
			out = append(out, s[k])
		case s[k] != ' ':
			return "", false
		}
	}
	return string(out), true
}

// phoneForm is the form of phones' numbers, with words in them.
type phoneForm struct{}

func (f phoneForm) key(value string) (string, bool) {
	out, ok := f.kept(value)
	return out, ok && out != ""
}

func (f phoneForm) piece(_ int8, s string) (string, bool) {
	return f.kept(s)
}

func (f phoneForm) kept(s string) (string, bool) {
	out := make([]byte, 0, len(s))
	for _, r := range s {
		switch {
		case r == ' ' || r == '-':
		case isLetter(r) || isDigit(r) || strings.ContainsRune(phoneSigns, r):
			out = append(out, byte(smallLetter(r)))
		default:
			return "", false
		}
	}
	return string(out), true
}

// flagForm is the form of the two words.
type flagForm struct{}

func (f flagForm) key(value string) (string, bool) {
	if value != "TRUE" && value != "FALSE" {
		return "", false
	}
	return value, true
}

// byteForm is the form that takes everything as it is.
type byteForm struct{}

func (f byteForm) key(value string) (string, bool) {
	return value, true
}

// oidForm is the form of names and of numbers with dots between them.
type oidForm struct{}

func (f oidForm) key(value string) (string, bool) {
	if !isWord(value) && !isDotted(value) {
		return "", false
	}
	return smallLetters(value), true
}

// isWord tells whether s is a letter, and behind it letters, digits and -.
func isWord(s string) bool {
	for at, r := range s {
		if !isLetter(r) && (at == 0 || !isDigit(r) && r != '-') {
			return false
		}
	}
	return s != ""
}

// isDotted tells whether s is two or more counts with a dot between each two.
func isDotted(s string) bool {
	rows := strings.Split(s, ".")
	for _, row := range rows {
		if !isCount(row) {
			return false
		}
	}
	return len(rows) >= 2
}

// isCount tells whether s is 0, or digits of which the first one is not 0.
func isCount(s string) bool {
	for k := range len(s) {
		if !isDigit(rune(s[k])) {
			return false
		}
	}
	return s == "0" || s != "" && s[0] != '0'
}

func isDigit(r rune) bool {
	return '0' <= r && r <= '9'
}

func isLetter(r rune) bool {
	return 'a' <= r && r <= 'z' || 'A' <= r && r <= 'Z'
}

// smallLetter leaves what is no letter as it is, letters of other alphabets too.
func smallLetter(r rune) rune {
	if 'A' <= r && r <= 'Z' {
		return r - 'A' + 'a'
	}
	return r
}

func smallLetters(s string) string {
	out := make([]byte, 0, len(s))
	for _, r := range s {
		out = utf8.AppendRune(out, smallLetter(r))
	}
	return string(out)
}
