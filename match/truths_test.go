package match_test

import (
	"strings"
	"testing"

	"roster/api"
	"roster/match"
)

func TestEqualExamples(t *testing.T) {
	s := testSchema(t)
	for i, c := range []struct{ got, want api.Truth }{
		{match.Equal(s, api.RuleFold, "ABC", "abc"), api.Yes},
		{match.Equal(s, api.RuleFold, "", "abc"), api.No},
		{match.Equal(s, api.RuleFold, "abc", ""), api.Unknown},
		{match.Equal(s, api.RuleFoldOrder, "a", "a"), api.Unknown},
	} {
		if c.got != c.want {
			t.Errorf("%d: %v, want %v", i, c.got, c.want)
		}
	}
}

func TestEqualOfEachRule(t *testing.T) {
	s := testSchema(t)
	long := strings.Repeat("a", api.MaxText+1)
	for _, c := range []struct {
		rule         int8
		value, asked string
		want         api.Truth
	}{
		{api.RuleFold, "a b", "A  B", api.Yes},
		{api.RuleFold, "a", "ab", api.No},
		{api.RuleFold, "ab", "a", api.No},
		{api.RuleFold, "\xff", "a", api.No},
		{api.RuleFold, "\xff", "\xff", api.Unknown},
		{api.RuleFold, long, "a", api.No},
		{api.RuleFold, "a", long, api.Unknown},
		{api.RuleExact, "a", "A", api.No},
		{api.RuleExact, " a", "a ", api.Yes},
		{api.RuleDigits, "1 2", "12", api.Yes},
		{api.RuleDigits, "x", "12", api.No},
		{api.RuleDigits, "12", "x", api.Unknown},
		{api.RulePhone, "1-a", "1A", api.Yes},
		{api.RuleNumber, "7", "7", api.Yes},
		{api.RuleNumber, "07", "7", api.No},
		{api.RuleNumber, "7", "07", api.Unknown},
		{api.RuleFlag, "TRUE", "TRUE", api.Yes},
		{api.RuleFlag, "TRUE", "FALSE", api.No},
		{api.RuleFlag, "TRUE", "true", api.Unknown},
		{api.RuleTime, "20240229235959Z", "20240301005959.0+0100", api.Yes},
		{api.RuleTime, "20240229235959Z", "20240229235958Z", api.No},
		{api.RuleBytes, "", "", api.Yes},
		{api.RuleBytes, "a", "", api.No},
		{api.RuleBytes, "a", long, api.Unknown},
		{api.RuleName, "CN=A", "cn=a", api.Yes},
		{api.RuleName, "", "", api.Yes},
		{api.RuleName, "cn=a", "", api.No},
		{api.RuleName, "zz=a", "cn=a", api.No},
		{api.RuleName, "cn=a", "zz=a", api.Unknown},
		{api.RuleName, "cn=a", "cn", api.Unknown},
		{api.RuleOid, "2.5.4.3", "CN", api.Yes},
		{api.RuleOid, "human", "PERSON", api.Yes},
		{api.RuleOid, "2.5.6.6", "person", api.Yes},
		{api.RuleOid, "a b", "person", api.No},
		{api.RuleOid, "person", "a b", api.Unknown},
		{api.RuleOid, "SN", "2.5.6.7", api.No}, // sn is the type's word
	} {
		if got := match.Equal(s, c.rule, c.value, c.asked); got != c.want {
			t.Errorf("Equal(%d, %s, %s) = %v, want %v", c.rule, brief(c.value), brief(c.asked), got, c.want)
		}
	}
}

func TestEqualOfOtherRules(t *testing.T) {
	s := testSchema(t)
	for _, rule := range numbersBut(equalRules) {
		for _, value := range []string{"", "1", "a"} {
			if got := match.Equal(s, rule, value, value); got != api.Unknown {
				t.Errorf("Equal(%d, %q, %q) = %v", rule, value, value, got)
			}
		}
	}
}

func TestOrderExamples(t *testing.T) {
	s := testSchema(t)
	for i, c := range []struct{ got, want api.Truth }{
		{match.From(s, api.RuleNumberOrder, "10", "9"), api.Yes},
		{match.UpTo(s, api.RuleNumberOrder, "-5", "-3"), api.Yes},
		{match.From(s, api.RuleNumber, "1", "1"), api.Unknown},
	} {
		if c.got != c.want {
			t.Errorf("%d: %v, want %v", i, c.got, c.want)
		}
	}
}

func TestOrderOfEachRule(t *testing.T) {
	s := testSchema(t)
	long := strings.Repeat("1", api.MaxText+1)
	const yes, no, unknown = api.Yes, api.No, api.Unknown
	for _, c := range []struct {
		rule         int8
		value, asked string
		from, upTo   api.Truth
	}{
		{api.RuleFoldOrder, "a", "B", no, yes},
		{api.RuleFoldOrder, "B", "a", yes, no},
		{api.RuleFoldOrder, "A", " a", yes, yes},
		{api.RuleFoldOrder, "a", "ab", no, yes}, // one key begins with the other
		{api.RuleFoldOrder, "ab", "a", yes, no},
		{api.RuleFoldOrder, "é", "z", yes, no}, // byte by byte
		{api.RuleFoldOrder, "", "a", no, no},
		{api.RuleFoldOrder, "a", "", unknown, unknown},
		{api.RuleFoldOrder, "\xff", "a", no, no},
		{api.RuleFoldOrder, "a", "\xff", unknown, unknown},
		{api.RuleFoldOrder, long, "0", no, no},
		{api.RuleFoldOrder, "0", long, unknown, unknown},
		{api.RuleExactOrder, "a", "B", yes, no},
		{api.RuleExactOrder, "B", "a", no, yes},
		{api.RuleDigitsOrder, "10", "9", no, yes}, // as texts
		{api.RuleDigitsOrder, "1 0", "10", yes, yes},
		{api.RuleDigitsOrder, "1", "10", no, yes},
		{api.RuleDigitsOrder, "10", "x", unknown, unknown},
		{api.RuleNumberOrder, "9", "10", no, yes},
		{api.RuleNumberOrder, "-10", "-9", no, yes},
		{api.RuleNumberOrder, "-1", "0", no, yes},
		{api.RuleNumberOrder, "0", "-1", yes, no},
		{api.RuleNumberOrder, "7", "7", yes, yes},
		{api.RuleNumberOrder, "x", "7", no, no},
		{api.RuleNumberOrder, "7", "07", unknown, unknown},
		{api.RuleTimeOrder, "20240229235959Z", "20240229235959.5Z", no, yes},
		{api.RuleTimeOrder, "20240229235959.5Z", "20240229235959.49Z", yes, no},
		{api.RuleTimeOrder, "20240301005959+0100", "20240229235959Z", yes, yes},
		{api.RuleTimeOrder, "20240229235959Z", "20230229235959Z", unknown, unknown},
		{api.RuleBytesOrder, "", "", yes, yes},
		{api.RuleBytesOrder, "", "\x00", no, yes},
		{api.RuleBytesOrder, "\x80", "\x7f", yes, no},
		{api.RuleBytesOrder, "a", "a\x00", no, yes},
		{api.RuleBytesOrder, "a", long, unknown, unknown},
	} {
		if got := match.From(s, c.rule, c.value, c.asked); got != c.from {
			t.Errorf("From(%d, %s, %s) = %v, want %v", c.rule, brief(c.value), brief(c.asked), got, c.from)
		}
		if got := match.UpTo(s, c.rule, c.value, c.asked); got != c.upTo {
			t.Errorf("UpTo(%d, %s, %s) = %v, want %v", c.rule, brief(c.value), brief(c.asked), got, c.upTo)
		}
	}
}

func TestOrderOfOtherRules(t *testing.T) {
	s := testSchema(t)
	for _, rule := range numbersBut(orderRules) {
		for _, value := range []string{"", "1", "a", "cn=a", "TRUE"} {
			if from, upTo := match.From(s, rule, value, value), match.UpTo(s, rule, value, value); from != api.Unknown || upTo != api.Unknown {
				t.Errorf("%d, %q: %v, %v", rule, value, from, upTo)
			}
		}
	}
}

func TestTruthsOfEachRuleAndValues(t *testing.T) {
	s := testSchema(t)
	for _, rule := range append(allRules(), api.RuleNone, -1, 99) {
		for _, value := range someValues {
			for _, asked := range someValues {
				if got, want := match.Equal(s, rule, value, asked), modelEqual(s, rule, value, asked); got != want {
					t.Errorf("Equal(%d, %q, %q) = %v, want %v", rule, value, asked, got, want)
				}
				if got, want := match.From(s, rule, value, asked), modelFrom(s, rule, value, asked); got != want {
					t.Errorf("From(%d, %q, %q) = %v, want %v", rule, value, asked, got, want)
				}
				if got, want := match.UpTo(s, rule, value, asked), modelUpTo(s, rule, value, asked); got != want {
					t.Errorf("UpTo(%d, %q, %q) = %v, want %v", rule, value, asked, got, want)
				}
			}
		}
	}
}
