package match

import (
	"strings"

	"roster/api"
	"roster/name"
	"roster/prep"
	"roster/schema"
)

// The sorts of rules.
const (
	ofNoSort = iota
	forEquality
	forOrder
	forPieces
)

// The ways in which rules make keys.
const (
	byNothing = iota
	byForm
	byName
	byOid
)

// does says what a rule does.
type does struct {
	sort, keys int8
}

// rules stand at their numbers.
var rules = [...]does{
	api.RuleNone:        {ofNoSort, byNothing},
	api.RuleFold:        {forEquality, byForm},
	api.RuleFoldOrder:   {forOrder, byForm},
	api.RuleFoldPart:    {forPieces, byForm},
	api.RuleExact:       {forEquality, byForm},
	api.RuleExactOrder:  {forOrder, byForm},
	api.RuleExactPart:   {forPieces, byForm},
	api.RuleDigits:      {forEquality, byForm},
	api.RuleDigitsOrder: {forOrder, byForm},
	api.RuleDigitsPart:  {forPieces, byForm},
	api.RulePhone:       {forEquality, byForm},
	api.RulePhonePart:   {forPieces, byForm},
	api.RuleNumber:      {forEquality, byForm},
	api.RuleNumberOrder: {forOrder, byForm},
	api.RuleFlag:        {forEquality, byForm},
	api.RuleTime:        {forEquality, byForm},
	api.RuleTimeOrder:   {forOrder, byForm},
	api.RuleBytes:       {forEquality, byForm},
	api.RuleBytesOrder:  {forOrder, byForm},
	api.RuleName:        {forEquality, byName},
	api.RuleOid:         {forEquality, byOid},
}

// keyer makes a value's key; false, if it has none.
type keyer func(value string) (string, bool)

// question is made once of what is asked for, and may then be asked of many values.
type question func(value string) api.Truth

// rule is a rule over a schema. It is of one sort, or of none: what rules of another sort are asked it answers by Unknown.
type rule struct {
	key   keyer
	equal func(asked string) question
	order func(asked string, holds func(order int) bool) question
	part  func(start string, middles []string, end string) question
}

func ruleOf(s *schema.Schema, number int8) rule {
	r := noRule()
	if s == nil || number < 0 || int(number) >= len(rules) {
		return r
	}
	form, _ := schema.Form(number)
	key := keyerOf(s, rules[number].keys, form)
	r.key = key
	switch rules[number].sort {
	case forEquality:
		r.equal = func(asked string) question { return compare(key, asked, isSame) }
	case forOrder:
		r.order = func(asked string, holds func(order int) bool) question { return compare(key, asked, holds) }
	case forPieces:
		r.part = func(start string, middles []string, end string) question {
			p, can := piecesOf(form, start, middles, end)
			if !can {
				return unknown
			}
			return p.question(key)
		}
	}
	return r
}

// noRule knows nothing of anything.
func noRule() rule {
	return rule{
		key:   noKey,
		equal: func(string) question { return unknown },
		order: func(string, func(int) bool) question { return unknown },
		part:  func(string, []string, string) question { return unknown },
	}
}

func keyerOf(s *schema.Schema, keys, form int8) keyer {
	switch keys {
	case byForm:
		return func(value string) (string, bool) { return prep.Key(form, value) }
	case byName:
		return func(value string) (string, bool) { return nameKey(s, value) }
	case byOid:
		return oidKeyer(s)
	}
	return noKey
}

func noKey(string) (string, bool) {
	return "", false
}

func nameKey(s *schema.Schema, value string) (string, bool) {
	n, err := name.Parse(value)
	if err != nil {
		return "", false
	}
	key, e := name.Key(s, n)
	return key, e == api.OK
}

// oidKeyer asks for the schema's classes once at most: they are handed out as a copy of all of it.
func oidKeyer(s *schema.Schema) keyer {
	var classes []api.Class
	return func(value string) (string, bool) {
		word, ok := prep.Key(api.FormOid, value)
		if !ok {
			return "", false
		}
		if place := s.Type(word); place >= 0 {
			return prep.Key(api.FormOid, s.Full(place).Oid)
		}
		place := s.Class(word)
		if place < 0 {
			return word, true
		}
		if classes == nil {
			classes = s.Plain().Classes
		}
		return prep.Key(api.FormOid, classes[place].Oid)
	}
}

func unknown(string) api.Truth {
	return api.Unknown
}

// compare asks whether it holds how a value's key comes, ahead of (below 0) or behind (above 0), to that of what is asked for.
func compare(key keyer, asked string, holds func(order int) bool) question {
	want, has := key(asked)
	if !has {
		return unknown
	}
	return func(value string) api.Truth {
		got, has := key(value)
		return truth(has && holds(strings.Compare(got, want)))
	}
}

func isSame(order int) bool      { return order == 0 }
func isNotAhead(order int) bool  { return order >= 0 }
func isNotBehind(order int) bool { return order <= 0 }
