package schema

import "strings"

func isLetter(c byte) bool {
	return 'a' <= c && c <= 'z' || 'A' <= c && c <= 'Z'
}

func isDigit(c byte) bool {
	return '0' <= c && c <= '9'
}

// isRow tells whether s is one or more letters, digits and -.
func isRow(s string) bool {
	for k := range len(s) {
		if !isLetter(s[k]) && !isDigit(s[k]) && s[k] != '-' {
			return false
		}
	}
	return s != ""
}

func isWord(s string) bool {
	return isRow(s) && isLetter(s[0])
}

func isNumber(s string) bool {
	for k := range len(s) {
		if !isDigit(s[k]) {
			return false
		}
	}
	return s != "" && (s[0] != '0' || s == "0")
}

func isOid(s string) bool {
	if !strings.Contains(s, ".") {
		return false
	}
	for number := range strings.SplitSeq(s, ".") {
		if !isNumber(number) {
			return false
		}
	}
	return true
}

func isWordOrOid(s string) bool {
	return isWord(s) || isOid(s)
}

// isQuoted: a quote that is not closed stands by itself, and is no quoted text.
func isQuoted(s string) bool {
	return len(s) > 1 && s[:1] == quote
}

func quoted(s string) string {
	return quote + s + quote
}

// small leaves all but A to Z as it is: nothing else has a case here, whatever stands in a name that is asked for.
func small(s string) string {
	b := []byte(s)
	for k, c := range b {
		if 'A' <= c && c <= 'Z' {
			b[k] = c - 'A' + 'a'
		}
	}
	return string(b)
}

// isSame: in any case; the lengths spare most words the trouble.
func isSame(a, b string) bool {
	return len(a) == len(b) && small(a) == small(b)
}
