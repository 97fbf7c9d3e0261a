package filter

import (
	"slices"

	"roster/api"
	"roster/entry"
	"roster/schema"
)

// says: of a filter that may be.
func says(s *schema.Schema, f api.Filter, r api.Record) api.Truth {
	switch f.Kind {
	case api.FAnd:
		return saysOf(s, f.Kids, r, api.No)
	case api.FOr:
		return saysOf(s, f.Kids, r, api.Yes)
	case api.FNot:
		return not(says(s, f.Kids[0], r))
	}
	return itemSays(s, f, r)
}

// saysOf: a kid that says what decides is enough; else one that is Unknown leaves it so.
func saysOf(s *schema.Schema, kids []api.Filter, r api.Record, decides api.Truth) api.Truth {
	out := not(decides)
	for _, kid := range kids {
		switch says(s, kid, r) {
		case decides:
			return decides
		case api.Unknown:
			out = api.Unknown
		}
	}
	return out
}

func not(t api.Truth) api.Truth {
	switch t {
	case api.Yes:
		return api.No
	case api.No:
		return api.Yes
	}
	return api.Unknown
}

func itemSays(s *schema.Schema, item api.Filter, r api.Record) api.Truth {
	a := ask(s, item)
	switch {
	case !a.known():
		return api.Unknown
	case finds(s, item, a, r):
		return api.Yes
	}
	return api.No
}

// finds tells whether one of the values at which the item looks is as it asks.
func finds(s *schema.Schema, item api.Filter, a asking, r api.Record) bool {
	for _, value := range entry.Values(s, r.Entry, item.Desc) {
		if a.matches(value) {
			return true
		}
	}
	switch own := a.(type) {
	case ruled:
		return own.findsBeside(r)
	default:
		return false
	}
}

// findsBeside looks at what Desc does not cover.
func (a ruled) findsBeside(r api.Record) bool {
	return a.item.Desc == "" && a.findsIn(r.Entry) || a.item.Dn && a.findsInName(r.Name)
}

func (a ruled) findsIn(e api.Entry) bool {
	for _, attr := range e.Attrs {
		if looksAt(a.schema, a.item, attr.Desc) && slices.ContainsFunc(attr.Values, a.matches) {
			return true
		}
	}
	return false
}

func (a ruled) findsInName(n api.Name) bool {
	for _, rdn := range n.Rdns {
		for _, ava := range rdn.Avas {
			if a.looksAtType(ava.Type) && a.matches(ava.Value) {
				return true
			}
		}
	}
	return false
}

// looksAtType: in a name stand types alone; a description with options is none.
func (a ruled) looksAtType(word string) bool {
	return a.schema.Type(word) != nowhere && looksAt(a.schema, a.item, word)
}

// looksAt tells whether an item looks at values of a description: if its Desc covers it, or, without a Desc, if its rule takes them.
func looksAt(s *schema.Schema, item api.Filter, desc string) bool {
	if item.Desc != "" {
		return s.Covers(item.Desc, desc)
	}
	place := placeOf(s, desc)
	return place != nowhere && equates(schema.Rule(item.Rule), s.Full(place).Syntax)
}
