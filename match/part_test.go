package match_test

import (
	"math/rand"
	"slices"
	"strings"
	"testing"

	"roster/api"
	"roster/match"
)

type asked struct {
	rule         int8
	value, start string
	middles      []string
	end          string
	want         api.Truth
}

func checkParts(t *testing.T, list []asked) {
	t.Helper()
	s := testSchema(t)
	for _, c := range list {
		if got := match.Part(s, c.rule, c.value, c.start, c.middles, c.end); got != c.want {
			t.Errorf("Part(%d, %s, %s, %.80q, %s) = %v, want %v", c.rule, brief(c.value), brief(c.start), c.middles, brief(c.end), got, c.want)
		}
	}
}

func TestPartExamples(t *testing.T) {
	checkParts(t, []asked{
		{api.RuleFoldPart, "Barbara Jensen", "bar", []string{"b", "a"}, "SEN", api.Yes},
		{api.RuleFoldPart, "abab", "ab", []string{}, "ab", api.Yes},
		{api.RuleFoldPart, "aba", "ab", []string{}, "ba", api.No},
		{api.RuleFoldPart, "xay", "", []string{"y", "a"}, "", api.No},
		{api.RulePhonePart, "+1 555", "1", []string{}, "5", api.No},
		{api.RuleDigitsPart, "12", "x", []string{}, "", api.Unknown},
		{api.RuleFold, "a", "a", []string{}, "", api.Unknown},
	})
}

func TestPartOfStartsAndEnds(t *testing.T) {
	checkParts(t, []asked{
		{api.RuleFoldPart, "Abc", "ab", nil, "", api.Yes},
		{api.RuleFoldPart, "Abc", "b", nil, "", api.No},
		{api.RuleFoldPart, "Abc", "abcd", nil, "", api.No},
		{api.RuleFoldPart, "Abc", "", nil, "BC", api.Yes},
		{api.RuleFoldPart, "Abc", "", nil, "b", api.No},
		{api.RuleFoldPart, "Abc", "abc", nil, "", api.Yes},
		{api.RuleFoldPart, "Abc", "", nil, "abc", api.Yes},
		{api.RuleFoldPart, "Abc", "abc", nil, "abc", api.No}, // one over the other
		{api.RuleFoldPart, "Abc", "ab", nil, "bc", api.No},
		{api.RuleFoldPart, "Abc", "ab", nil, "c", api.Yes},
		{api.RuleFoldPart, "Abc", "abc", nil, "c", api.No},
		{api.RuleFoldPart, "aaa", "aa", nil, "aa", api.No},
		{api.RuleFoldPart, "aaaa", "aa", nil, "aa", api.Yes},
		{api.RuleFoldPart, "a", "a", nil, "a", api.No},
		{api.RuleFoldPart, "anything", "", nil, "", api.Yes}, // nothing is there
		{api.RuleFoldPart, "", "", nil, "", api.No},          // and the value has no key
		{api.RuleExactPart, "Abc", "ab", nil, "", api.No},
		{api.RuleExactPart, "Abc", "Ab", nil, "c", api.Yes},
		{api.RuleExactPart, "Abc", "A", nil, "C", api.No},
	})
}

func TestPartOfMiddles(t *testing.T) {
	checkParts(t, []asked{
		{api.RuleFoldPart, "abcd", "", []string{"B"}, "", api.Yes},
		{api.RuleFoldPart, "abcd", "", []string{"x"}, "", api.No},
		{api.RuleFoldPart, "abcd", "", []string{"abcd"}, "", api.Yes},
		{api.RuleFoldPart, "abcd", "", []string{"abcde"}, "", api.No},
		{api.RuleFoldPart, "abcd", "", []string{"a", "b", "c", "d"}, "", api.Yes},
		{api.RuleFoldPart, "abcd", "", []string{"a", "c", "b"}, "", api.No},
		{api.RuleFoldPart, "abcd", "", []string{"ab", "bc"}, "", api.No}, // one over the other
		{api.RuleFoldPart, "abcbc", "", []string{"ab", "bc"}, "", api.Yes},
		{api.RuleFoldPart, "abcd", "", []string{"b", "b"}, "", api.No},
		{api.RuleFoldPart, "abcd", "a", []string{"a"}, "", api.No},
		{api.RuleFoldPart, "abcd", "", []string{"d"}, "d", api.No},
		{api.RuleFoldPart, "abcd", "ab", []string{"bc"}, "", api.No},
		{api.RuleFoldPart, "abcd", "", []string{"bc"}, "cd", api.No},
		{api.RuleFoldPart, "abcd", "a", []string{"b", "c"}, "d", api.Yes},
		{api.RuleFoldPart, "abcd", "a", []string{"bc"}, "d", api.Yes},
		{api.RuleFoldPart, "abcd", "a", []string{"c", "b"}, "d", api.No},
		{api.RuleFoldPart, "aab", "", []string{"ab"}, "", api.Yes},
		{api.RuleFoldPart, "aXbaXc", "a", []string{"ax"}, "c", api.Yes},
		{api.RuleFoldPart, "é", "", []string{"é"}, "", api.Yes},
		{api.RuleDigitsPart, "1 2 3", "", []string{"23"}, "", api.Yes},
		{api.RulePhonePart, "+1-A2", "+", []string{"1a"}, "2", api.Yes},
		{api.RuleExactPart, "aB", "", []string{"b"}, "", api.No},
	})
	many := strings.Repeat("a", 5000)
	checkParts(t, []asked{
		{api.RuleFoldPart, many, "", strings.Split(many, ""), "", api.Yes},
		{api.RuleFoldPart, many, "", strings.Split(many+"a", ""), "", api.No},
		{api.RuleFoldPart, many, "a", strings.Split(many[2:], ""), "A", api.Yes},
		{api.RuleFoldPart, many, "a", strings.Split(many[1:], ""), "A", api.No},
		{api.RuleFoldPart, many, "", slices.Repeat([]string{""}, 1<<17), "", api.Yes},
	})
}

func TestPartOfEmptyPieces(t *testing.T) {
	checkParts(t, []asked{
		{api.RuleFoldPart, "ab", "a", []string{""}, "b", api.Yes},
		{api.RuleFoldPart, "ab", "", []string{"", "a", "", "b", ""}, "", api.Yes},
		{api.RuleFoldPart, "ab", "", []string{"b", "", "a"}, "", api.No},
		{api.RuleDigitsPart, "12", "", []string{""}, "", api.Yes},
		{api.RulePhonePart, "12", "", []string{""}, "", api.Yes},
		{api.RuleExactPart, "12", "", []string{""}, "", api.Yes},
		{api.RuleFoldPart, "\xff", "", []string{""}, "", api.No},
		{api.RuleFoldPart, "ab", " ", nil, "  ", api.Yes}, // there, but nothing is left of them
		{api.RuleDigitsPart, "12", " ", []string{"  "}, " ", api.Yes},
		{api.RulePhonePart, "12", "-", []string{" - "}, " ", api.Yes},
	})
}

// Where a piece stands decides which of its blanks count.
func TestPartOfBlanks(t *testing.T) {
	checkParts(t, []asked{
		{api.RuleFoldPart, "  A  b ", " a ", nil, "", api.Yes},
		{api.RuleFoldPart, "ab", "a ", nil, "", api.No},
		{api.RuleFoldPart, "a b", "", nil, "  B  ", api.Yes},
		{api.RuleFoldPart, "ab", "", nil, " b", api.No},
		{api.RuleFoldPart, "a b", "", []string{"   "}, "", api.Yes},
		{api.RuleFoldPart, " ab ", "", []string{" "}, "", api.No},
		{api.RuleFoldPart, "a b c", "", []string{" b "}, "", api.Yes},
		{api.RuleFoldPart, "a b", "", []string{" b "}, "", api.No},
		{api.RuleFoldPart, "a b", "a ", []string{" "}, "", api.No},
		{api.RuleFoldPart, "   ", "", []string{" "}, "", api.Yes}, // its key is one blank
		{api.RuleFoldPart, "   ", " ", nil, " ", api.Yes},
		{api.RuleExactPart, "A  b", " A ", []string{"b "}, "", api.No},
		{api.RuleExactPart, "A  b", " A ", nil, "b ", api.Yes},
	})
}

func TestPartOfPiecesThatCannotBe(t *testing.T) {
	long := strings.Repeat("1", api.MaxText+1)
	for _, c := range []struct {
		rule int8
		bad  string
	}{
		{api.RuleFoldPart, "\xff"}, {api.RuleFoldPart, "a\xc3"}, {api.RuleFoldPart, long},
		{api.RuleExactPart, "\xff"}, {api.RuleExactPart, "\xa9"}, {api.RuleExactPart, long},
		{api.RuleDigitsPart, "a"}, {api.RuleDigitsPart, "1-2"}, {api.RuleDigitsPart, long},
		{api.RulePhonePart, "#"}, {api.RulePhonePart, "é"}, {api.RulePhonePart, long},
	} {
		for _, value := range []string{"12", "", "\xff", c.bad} {
			checkParts(t, []asked{
				{c.rule, value, c.bad, nil, "", api.Unknown},
				{c.rule, value, "", []string{c.bad}, "", api.Unknown},
				{c.rule, value, "", nil, c.bad, api.Unknown},
				{c.rule, value, "9", []string{"9", "", c.bad}, "9", api.Unknown},
				{c.rule, value, "9", []string{c.bad, "9"}, "9", api.Unknown},
				{c.rule, value, "9", []string{"9"}, c.bad, api.Unknown},
			})
		}
	}
	bound := long[1:]
	checkParts(t, []asked{
		{api.RuleFoldPart, bound, bound, nil, "", api.Yes},
		{api.RuleDigitsPart, bound, "", []string{bound}, "", api.Yes},
		{api.RulePhonePart, bound, "", nil, bound, api.Yes},
		{api.RuleFoldPart, long, "1", nil, "", api.No},
	})
}

func TestPartOfOtherRules(t *testing.T) {
	s := testSchema(t)
	for _, rule := range numbersBut(partRules) {
		for _, value := range []string{"", "1", "a", "TRUE", "cn=a"} {
			for _, middles := range [][]string{nil, {""}, {value}} {
				if got := match.Part(s, rule, value, "", middles, ""); got != api.Unknown {
					t.Errorf("%d, %q: %v", rule, value, got)
				}
				if got := match.Part(s, rule, value, value, middles, value); got != api.Unknown {
					t.Errorf("%d, %q: %v", rule, value, got)
				}
			}
		}
	}
}

// somePart asks of a small alphabet, so that pieces often stand there, and at several places.
func somePart(r *rand.Rand) asked {
	letters := []string{"a", "b", "A", " ", "1", "2", "-"}
	if r.Intn(3) == 0 {
		letters = []string{"1", "2", " "}
	}
	text := func(most int) string {
		out := ""
		for range r.Intn(most + 1) {
			out += letters[r.Intn(len(letters))]
		}
		return out
	}
	c := asked{rule: partRules[r.Intn(len(partRules))], value: text(9), start: text(2), end: text(2)}
	for range r.Intn(4) {
		c.middles = append(c.middles, text(2))
	}
	return c
}

func TestPartOfManyTexts(t *testing.T) {
	s := testSchema(t)
	r := rand.New(rand.NewSource(1))
	var seen [3]int
	for range 60000 {
		c := somePart(r)
		want := modelPart(s, c.rule, c.value, c.start, c.middles, c.end)
		if got := match.Part(s, c.rule, c.value, c.start, c.middles, c.end); got != want {
			t.Errorf("Part(%d, %q, %q, %q, %q) = %v, want %v", c.rule, c.value, c.start, c.middles, c.end, got, want)
		}
		seen[want]++
	}
	if seen[api.Yes] < 1000 || seen[api.No] < 1000 || seen[api.Unknown] < 1000 {
		t.Errorf("only %v were seen", seen)
	}
}

// All starts, middles and ends of up to two letters, over all values of up to five.
func TestPartOfAllSmallTexts(t *testing.T) {
	s := testSchema(t)
	pieces := textsOf("ab", 2)
	for _, value := range textsOf("ab", 5) {
		for _, start := range pieces {
			for _, end := range pieces {
				for _, middle := range pieces {
					middles := []string{middle, "b"}
					want := modelPart(s, api.RuleExactPart, value, start, middles, end)
					if got := match.Part(s, api.RuleExactPart, value, start, middles, end); got != want {
						t.Fatalf("%q, %q, %q, %q: %v, want %v", value, start, middles, end, got, want)
					}
				}
			}
		}
	}
}

// textsOf has all texts of these letters, up to so many.
func textsOf(letters string, longest int) []string {
	texts, last := []string{""}, []string{""}
	for range longest {
		var next []string
		for _, text := range last {
			for _, letter := range letters {
				next = append(next, text+string(letter))
			}
		}
		texts = append(texts, next...)
		last = next
	}
	return texts
}
