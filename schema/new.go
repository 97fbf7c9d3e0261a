package schema

import (
	"slices"

	"roster/api"
)

// maker is a schema that is being put together. It knows where all Sups stand ahead of looking at any type or class, since a Sup may stand behind.
type maker struct {
	*Schema
	sup  []int   // the place of each type's Sup, or nothing
	sups [][]int // of each class the places of its Sups, each once
}

// New: P5.3.
func New(s api.Schema) (*Schema, api.Errno, int) {
	if len(s.Types) > api.MaxTypes || len(s.Classes) > api.MaxTypes {
		return nil, api.ErrLong, 0
	}
	m := newMaker(s)
	for t := range s.Types {
		if e := m.takeType(t); e != api.OK {
			return nil, e, t
		}
	}
	for c := range s.Classes {
		if e := m.takeClass(c); e != api.OK {
			return nil, e, len(s.Types) + c
		}
	}
	if !m.tellsClasses() {
		return nil, api.ErrType, 0
	}
	return m.Schema, api.OK, 0
}

func newMaker(s api.Schema) *maker {
	m := &maker{Schema: &Schema{plain: twin(s), types: map[string]int{}, classes: map[string]int{}}}
	for place, t := range s.Types {
		put(m.types, place, t.Oid, t.Names)
	}
	for place, c := range s.Classes {
		put(m.classes, place, c.Oid, c.Names)
	}
	for _, t := range s.Types {
		m.sup = append(m.sup, m.supOf(t))
	}
	for _, c := range s.Classes {
		m.sups = append(m.sups, m.supsOf(c))
	}
	return m
}

// put leaves a word to the first that has it: the second one is refused in its turn.
func put(places map[string]int, place int, oid string, names []string) {
	for _, word := range append([]string{oid}, names...) {
		if find(places, word) == nothing {
			places[small(word)] = place
		}
	}
}

func (m *maker) supOf(t api.Type) int {
	if t.Sup == "" {
		return nothing
	}
	return m.Type(t.Sup)
}

func (m *maker) supsOf(c api.Class) []int {
	seen := make([]bool, len(m.plain.Classes))
	var sups []int
	for _, name := range c.Sups {
		if sup := m.Class(name); sup != nothing && !seen[sup] {
			seen[sup] = true
			sups = append(sups, sup)
		}
	}
	return sups
}

func (m *maker) takeType(place int) api.Errno {
	t := m.plain.Types[place]
	if e := checkWords(t.Oid, t.Names); e != api.OK {
		return e
	}
	if isTwice(m.types, place, t.Oid, t.Names) {
		return api.ErrTwice
	}
	if e := m.takeSup(place); e != api.OK {
		return e
	}
	return m.takeRules(place)
}

// checkWords: ErrLong behind all else, since a class has more that is ErrSyntax.
func checkWords(oid string, names []string) api.Errno {
	if !isOid(oid) || len(oid) > api.MaxText || len(names) == 0 {
		return api.ErrSyntax
	}
	for _, name := range names {
		if !isWord(name) || len(name) > api.MaxText {
			return api.ErrSyntax
		}
	}
	if len(names) > api.MaxNames {
		return api.ErrLong
	}
	return api.OK
}

func isTwice(places map[string]int, place int, oid string, names []string) bool {
	own := []string{oid} // it has no letters
	for _, name := range names {
		if slices.Contains(own, small(name)) {
			return true
		}
		own = append(own, small(name))
	}
	return slices.ContainsFunc(own, func(word string) bool { return places[word] != place })
}

func (m *maker) takeSup(place int) api.Errno {
	if m.plain.Types[place].Sup != "" && m.sup[place] == nothing {
		return api.ErrWord
	}
	var above []int
	for up := m.sup[place]; up != nothing; up = m.sup[up] {
		if len(above) == len(m.sup) {
			return api.ErrLoop // more steps than types: one came twice
		}
		above = append(above, up)
	}
	if len(above) > api.MaxSups {
		return api.ErrLong
	}
	m.above = append(m.above, above)
	return api.OK
}

func (m *maker) takeRules(place int) api.Errno {
	t := m.plain.Types[place]
	if !isSyntax(t.Syntax) || m.sup[place] != nothing && t.Syntax != m.plain.Types[m.sup[place]].Syntax {
		return api.ErrRule
	}
	for kind, number := range rulesOf(t) {
		if number != api.RuleNone && !isRuleFor(number, kind, t.Syntax) {
			return api.ErrRule
		}
	}
	full := m.allRules(place)
	if t.Index > allBits {
		return api.ErrRule
	}
	for kind, number := range full {
		if t.Index&(api.IxEqual<<kind) != 0 && number == api.RuleNone {
			return api.ErrRule
		}
	}
	t.Equal, t.Order, t.Part = full[kindEqual], full[kindOrder], full[kindPart]
	m.full = append(m.full, t)
	return api.OK
}

func isRuleFor(number int8, kind int, syntax int8) bool {
	return isRule(number) && int(rules[number].kind) == kind && rules[number].syntax == syntax
}

// allRules has of each kind the rule of the nearest type that names one, from the type itself upwards.
func (m *maker) allRules(place int) [kinds]int8 {
	full := rulesOf(m.plain.Types[place])
	for _, up := range m.above[place] {
		for kind, number := range rulesOf(m.plain.Types[up]) {
			if full[kind] == api.RuleNone {
				full[kind] = number
			}
		}
	}
	return full
}

func (m *maker) takeClass(place int) api.Errno {
	c := m.plain.Classes[place]
	e := checkWords(c.Oid, c.Names)
	switch {
	case e == api.ErrSyntax || !isClassKind(c.Kind):
		return api.ErrSyntax
	case e == api.ErrLong || len(c.Sups) > api.MaxSups:
		return api.ErrLong
	case isTwice(m.classes, place, c.Oid, c.Names):
		return api.ErrTwice
	}
	if e := m.takeSups(place); e != api.OK {
		return e
	}
	if !m.areTypes(c.Must) || !m.areTypes(c.May) {
		return api.ErrWord
	}
	return api.OK
}

func (m *maker) takeSups(place int) api.Errno {
	for _, name := range m.plain.Classes[place].Sups {
		if m.Class(name) == nothing {
			return api.ErrWord
		}
	}
	above := m.classesAbove(place)
	if slices.Contains(above, place) {
		return api.ErrLoop
	}
	if len(above) > api.MaxSups {
		return api.ErrLong
	}
	m.parents = append(m.parents, above)
	return api.OK
}

// classesAbove has the class itself too, if one can come to it again.
func (m *maker) classesAbove(place int) []int {
	seen := make([]bool, len(m.sups))
	above := slices.Clone(m.sups[place])
	for _, sup := range above {
		seen[sup] = true
	}
	for k := 0; k < len(above); k++ {
		for _, sup := range m.sups[above[k]] {
			if !seen[sup] {
				seen[sup] = true
				above = append(above, sup)
			}
		}
	}
	return above
}

func (m *maker) areTypes(names []string) bool {
	return all(names, func(name string) bool { return m.Type(name) != nothing })
}

// tellsClasses: without such a type no entry could say of which classes it is.
func (m *maker) tellsClasses() bool {
	t := m.Type("objectClass")
	return t != nothing && m.full[t].Syntax == api.SynOid && m.full[t].Equal == api.RuleOid && !m.full[t].Single
}
