package rank

import (
	"strings"

	"roster/api"
	"roster/entry"
	"roster/match"
	"roster/schema"
)

// found is a record's key under a sort key; keys may be empty, so that has tells whether there is one.
type found struct {
	key string
	has bool
}

// rulesOf has the rule of each sort key, and tells whether all of them have one.
func rulesOf(s *schema.Schema, keys []api.SortKey) ([]int8, bool) {
	rules := make([]int8, len(keys))
	for i, key := range keys {
		rules[i] = ruleOf(s, key)
		if rules[i] == api.RuleNone {
			return nil, false
		}
	}
	return rules, true
}

func ruleOf(s *schema.Schema, key api.SortKey) int8 {
	place, _, wrong := s.Desc(key.Desc)
	if wrong != api.OK {
		return api.RuleNone
	}
	full := s.Full(place)
	if key.Rule != "" {
		return ruleNamed(key.Rule, full.Syntax)
	}
	if full.Order != api.RuleNone {
		return full.Order
	}
	return full.Equal
}

// ruleNamed is none but a rule for order of the syntax.
func ruleNamed(name string, syntax int8) int8 {
	rule := schema.Rule(name)
	if _, takes := schema.Form(rule); takes != syntax || !isForOrder(rule) {
		return api.RuleNone
	}
	return rule
}

func isForOrder(rule int8) bool {
	switch rule {
	case api.RuleFoldOrder, api.RuleExactOrder, api.RuleDigitsOrder, api.RuleNumberOrder, api.RuleTimeOrder, api.RuleBytesOrder:
		return true
	}
	return false
}

// columnOf is what all records have under a sort key. A record's own keys are held against one another as those of two records are: the one that comes ahead is the record's.
func columnOf(s *schema.Schema, l []api.Record, key api.SortKey, rule int8) column[found] {
	hold := holder(key.Back)
	all := make([]found, len(l))
	for i, record := range l {
		for _, value := range entry.Values(s, record.Entry, key.Desc) {
			text, has := match.Key(s, rule, value)
			if one := (found{text, has}); hold(one, all[i]) < 0 {
				all[i] = one
			}
		}
	}
	return column[found]{all, hold}
}

// holder is what holds two keys against one another; none comes behind any, whichever way the others are turned.
func holder(back bool) func(a, b found) int {
	return func(a, b found) int {
		switch {
		case a.has != b.has && a.has:
			return -1
		case a.has != b.has:
			return 1
		case back:
			return strings.Compare(b.key, a.key)
		}
		return strings.Compare(a.key, b.key)
	}
}
