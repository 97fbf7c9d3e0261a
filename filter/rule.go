package filter

import (
	"roster/api"
	"roster/schema"
)

// ruleOf has the rule by which an extensible item goes, kind being its Desc's type, at that place; RuleNone, if there is none for equality that takes its values.
func ruleOf(item api.Filter, place int, kind api.Type) int8 {
	rule := kind.Equal
	if item.Rule != "" {
		rule = schema.Rule(item.Rule)
	}
	right := isForEquality(rule)
	if item.Desc != "" {
		right = place != nowhere && equates(rule, kind.Syntax)
	}
	if !right {
		return api.RuleNone
	}
	return rule
}

// equates tells whether rule is one for equality, of values of that syntax.
func equates(rule, syntax int8) bool {
	_, own := schema.Form(rule)
	return isForEquality(rule) && own == syntax
}

func isForEquality(rule int8) bool {
	switch rule {
	case api.RuleFold, api.RuleExact, api.RuleDigits, api.RulePhone, api.RuleNumber,
		api.RuleFlag, api.RuleTime, api.RuleBytes, api.RuleName, api.RuleOid:
		return true
	}
	return false
}
