package filter

import (
	"slices"
	"strings"

	"roster/api"
)

// isLong tells whether one of a part's texts is, whatever the part's kind.
func isLong(part api.Filter) bool {
	longest := max(len(part.Desc), len(part.Value), len(part.Start), len(part.End), len(part.Rule))
	for _, middle := range part.Middles {
		longest = max(longest, len(middle))
	}
	return longest > api.MaxText
}

// mayBe tells whether a part is one of those that the chapter lists; what its kids are does not count here.
func mayBe(part api.Filter) bool {
	right, rest := false, part
	switch part.Kind {
	case api.FAnd, api.FOr:
		right = len(part.Kids) > 0
		rest.Kids = nil
	case api.FNot:
		right = len(part.Kids) == 1
		rest.Kids = nil
	case api.FEqual, api.FMore, api.FLess, api.FLike:
		right = isDesc(part.Desc)
		rest.Desc, rest.Value = "", ""
	case api.FHave:
		right = isDesc(part.Desc)
		rest.Desc = ""
	case api.FPart:
		right = isDesc(part.Desc) && arePieces(part.Start, part.Middles, part.End)
		rest.Desc, rest.Start, rest.Middles, rest.End = "", "", nil, ""
	case api.FRule:
		right = isRuled(part.Desc, part.Rule)
		rest.Desc, rest.Rule, rest.Value, rest.Dn = "", "", "", false
	}
	return right && isBare(rest)
}

// isBare tells whether nothing stands in a part beside its kind.
func isBare(part api.Filter) bool {
	texts := len(part.Desc) + len(part.Value) + len(part.Start) + len(part.End) + len(part.Rule)
	return texts == 0 && len(part.Kids) == 0 && len(part.Middles) == 0 && !part.Dn
}

func arePieces(start string, middles []string, end string) bool {
	return (start != "" || len(middles) > 0 || end != "") && !slices.Contains(middles, "")
}

func isRuled(desc, rule string) bool {
	switch {
	case rule == "":
		return isDesc(desc)
	case isDn(rule):
		return false
	}
	return isWord(rule) && (desc == "" || isDesc(desc))
}

// isDn: the four spellings stand here one by one, since strings.EqualFold would lean on the library's tables of all letters, greater than a table may be.
func isDn(word string) bool {
	switch word {
	case "dn", "dN", "Dn", "DN":
		return true
	}
	return false
}

// isDesc tells whether s has a description's form.
func isDesc(s string) bool {
	word, options, some := strings.Cut(s, ";")
	return isWord(word) && (!some || areOptions(options))
}

func areOptions(s string) bool {
	for option := range strings.SplitSeq(s, ";") {
		if !isRow(option) {
			return false
		}
	}
	return true
}

// isWord tells whether s is a type's word.
func isWord(s string) bool {
	return isRow(s) && isLetter(s[0]) || areNumbers(s)
}

// isRow tells whether s is one or more letters, digits and -.
func isRow(s string) bool {
	for i := range len(s) {
		if !isLetter(s[i]) && !isDigit(s[i]) && s[i] != '-' {
			return false
		}
	}
	return s != ""
}

// areNumbers tells whether s is two or more numbers with a dot between each two.
func areNumbers(s string) bool {
	for number := range strings.SplitSeq(s, ".") {
		if !isNumber(number) {
			return false
		}
	}
	return strings.Contains(s, ".")
}

func isNumber(s string) bool {
	for i := range len(s) {
		if !isDigit(s[i]) {
			return false
		}
	}
	return s != "" && (s[0] != '0' || s == "0")
}

func isLetter(b byte) bool {
	return 'a' <= b && b <= 'z' || 'A' <= b && b <= 'Z'
}

func isDigit(b byte) bool {
	return '0' <= b && b <= '9'
}
