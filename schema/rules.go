package schema

import (
	"strings"

	"roster/api"
)

// The kinds of rules, in the order of the bits of Index from IxEqual on.
const (
	kindEqual = iota
	kindOrder
	kindPart
	kinds
)

const (
	ruleArc   = "2.5.13."
	syntaxArc = "1.3.6.1.4.1.1466.115.121.1."
	nothing   = -1
)

// Syntaxes and rules stand at their numbers; of an Oid there is what stands behind its arc.
var syntaxes = [...]string{
	api.SynText: "15", api.SynDigits: "36", api.SynPhone: "50", api.SynNumber: "27", api.SynFlag: "7",
	api.SynTime: "24", api.SynBytes: "40", api.SynName: "12", api.SynOid: "38",
}

type rule struct {
	name, oid          string
	kind, syntax, form int8
}

var rules = [...]rule{
	api.RuleNone:        {"", "", nothing, nothing, nothing},
	api.RuleFold:        {"caseIgnoreMatch", "2", kindEqual, api.SynText, api.FormFold},
	api.RuleFoldOrder:   {"caseIgnoreOrderingMatch", "3", kindOrder, api.SynText, api.FormFold},
	api.RuleFoldPart:    {"caseIgnoreSubstringsMatch", "4", kindPart, api.SynText, api.FormFold},
	api.RuleExact:       {"caseExactMatch", "5", kindEqual, api.SynText, api.FormExact},
	api.RuleExactOrder:  {"caseExactOrderingMatch", "6", kindOrder, api.SynText, api.FormExact},
	api.RuleExactPart:   {"caseExactSubstringsMatch", "7", kindPart, api.SynText, api.FormExact},
	api.RuleDigits:      {"numericStringMatch", "8", kindEqual, api.SynDigits, api.FormDigits},
	api.RuleDigitsOrder: {"numericStringOrderingMatch", "9", kindOrder, api.SynDigits, api.FormDigits},
	api.RuleDigitsPart:  {"numericStringSubstringsMatch", "10", kindPart, api.SynDigits, api.FormDigits},
	api.RulePhone:       {"telephoneNumberMatch", "20", kindEqual, api.SynPhone, api.FormPhone},
	api.RulePhonePart:   {"telephoneNumberSubstringsMatch", "21", kindPart, api.SynPhone, api.FormPhone},
	api.RuleNumber:      {"integerMatch", "14", kindEqual, api.SynNumber, api.FormNumber},
	api.RuleNumberOrder: {"integerOrderingMatch", "15", kindOrder, api.SynNumber, api.FormNumber},
	api.RuleFlag:        {"booleanMatch", "13", kindEqual, api.SynFlag, api.FormFlag},
	api.RuleTime:        {"generalizedTimeMatch", "27", kindEqual, api.SynTime, api.FormTime},
	api.RuleTimeOrder:   {"generalizedTimeOrderingMatch", "28", kindOrder, api.SynTime, api.FormTime},
	api.RuleBytes:       {"octetStringMatch", "17", kindEqual, api.SynBytes, api.FormBytes},
	api.RuleBytesOrder:  {"octetStringOrderingMatch", "18", kindOrder, api.SynBytes, api.FormBytes},
	api.RuleName:        {"distinguishedNameMatch", "1", kindEqual, api.SynName, nothing},
	api.RuleOid:         {"objectIdentifierMatch", "0", kindEqual, api.SynOid, api.FormOid},
}

// Rule: P5.8.
func Rule(name string) int8 {
	oid, byOid := strings.CutPrefix(name, ruleArc)
	for number, r := range rules {
		if byOid && oid == r.oid || isSame(name, r.name) {
			return int8(number)
		}
	}
	return api.RuleNone
}

// RuleName: P5.8.
func RuleName(rule int8) string {
	if !isRule(rule) {
		return ""
	}
	return rules[rule].name
}

// Form: P5.8.
func Form(rule int8) (form int8, syntax int8) {
	if !isRule(rule) {
		return nothing, nothing
	}
	return rules[rule].form, rules[rule].syntax
}

// isRule takes RuleNone too: its row says that it has no name, no kind, no syntax and no form.
func isRule(number int8) bool {
	return 0 <= number && int(number) < len(rules)
}

func isSyntax(number int8) bool {
	return 0 <= number && int(number) < len(syntaxes)
}

func syntaxOf(oid string) (int8, bool) {
	behind, ok := strings.CutPrefix(oid, syntaxArc)
	for number, end := range syntaxes {
		if ok && behind == end {
			return int8(number), true
		}
	}
	return 0, false
}

// rulesOf has the rules that the type names, each at its kind's place.
func rulesOf(t api.Type) [kinds]int8 {
	return [kinds]int8{kindEqual: t.Equal, kindOrder: t.Order, kindPart: t.Part}
}
