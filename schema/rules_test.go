package schema_test

import (
	"strings"
	"testing"

	"roster/api"
	"roster/schema"
)

func TestRuleExamples(t *testing.T) {
	if a, b := schema.Rule("CASEIGNOREMATCH"), schema.Rule("2.5.13.5"); a != api.RuleFold || b != api.RuleExact {
		t.Errorf("%d %d", a, b)
	}
	if form, syntax := schema.Form(api.RuleName); form != -1 || syntax != api.SynName {
		t.Errorf("%d %d", form, syntax)
	}
	if form, syntax := schema.Form(api.RuleTimeOrder); form != api.FormTime || syntax != api.SynTime {
		t.Errorf("%d %d", form, syntax)
	}
}

func TestRulesOfTheTable(t *testing.T) {
	if len(ruleRows) != 20 || len(syntaxOids) != 9 {
		t.Fatalf("%d rules, %d syntaxes", len(ruleRows), len(syntaxOids))
	}
	for _, row := range ruleRows {
		for _, name := range []string{row.name, strings.ToLower(row.name), strings.ToUpper(row.name), row.oid} {
			if got := schema.Rule(name); got != row.number {
				t.Errorf("Rule(%s) = %d, want %d", name, got, row.number)
			}
		}
		for _, name := range []string{row.name + "x", row.name[1:], " " + row.name, row.name + ";", row.oid + "0.", "0" + row.oid, row.oid + ".1", strings.TrimPrefix(row.oid, ruleArc), strings.Replace(row.oid, ruleArc, ruleArc+"0", 1), strings.Replace(row.name, "a", "\u0430", 1)} {
			if got := schema.Rule(name); got != api.RuleNone {
				t.Errorf("Rule(%s) = %d", name, got)
			}
		}
		if got := schema.RuleName(row.number); got != row.name {
			t.Errorf("RuleName(%d) = %s", row.number, got)
		}
	}
}

func TestRuleOfEveryOid(t *testing.T) {
	for n, oid := range strings.Fields(strings.Repeat("2.5.13. ", 64)) {
		oid += string([]byte{'0' + byte(n/10), '0' + byte(n%10)})
		oid = strings.Replace(oid, ruleArc+"0", ruleArc, 1)
		want := int8(api.RuleNone)
		for _, row := range ruleRows {
			if row.oid == oid {
				want = row.number
			}
		}
		if got := schema.Rule(oid); got != want {
			t.Errorf("Rule(%s) = %d, want %d", oid, got, want)
		}
	}
	for _, name := range []string{"", "2.5.13.", "2.5.13", "2.5.", "RuleFold", "none", syntaxArc + "15", "\x00", strings.Repeat("a", 1<<20)} {
		if got := schema.Rule(name); got != api.RuleNone {
			t.Errorf("Rule(%s) = %d", brief(name), got)
		}
	}
}

func TestRulesOfEveryNumber(t *testing.T) {
	for n := -128; n <= 127; n++ {
		row, ok := ruleRowOf(int8(n))
		if !ok {
			row.form, row.syntax = -1, -1
		}
		if form, syntax := schema.Form(int8(n)); form != row.form || syntax != row.syntax {
			t.Errorf("Form(%d) = %d, %d", n, form, syntax)
		}
		if got := schema.RuleName(int8(n)); got != row.name {
			t.Errorf("RuleName(%d) = %s", n, got)
		}
	}
}
