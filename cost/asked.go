package cost

import (
	"roster/api"
	"roster/match"
	"roster/prep"
	"roster/schema"
)

// maxKey is how many bytes the key of a fetch may have.
const maxKey = 8 * api.MaxText

func isItem(f api.Filter) bool {
	return f.Kind != api.FAnd && f.Kind != api.FOr && f.Kind != api.FNot
}

// asked is what an item that is known asks. An extensible one may be known without a Desc: no index has all types.
func asked(s *schema.Schema, item api.Filter) (q api.Fetch, exact bool, ok bool) {
	place, options, wrong := s.Desc(item.Desc)
	if wrong != api.OK {
		return api.Fetch{}, false, false
	}
	q, ok = fetchOf(s, item, place)
	return q, ok && item.Kind != api.FPart && len(options) == 0, ok
}

// fetchOf is what an item that is known asks of the type at that place; false, if that is nothing that an index could tell.
func fetchOf(s *schema.Schema, item api.Filter, place int) (api.Fetch, bool) {
	full := s.Full(place)
	byKey := func(kind, rule int8) (api.Fetch, bool) {
		key, has := match.Key(s, rule, item.Value)
		if !has || len(key) > maxKey {
			return api.Fetch{}, false
		}
		return api.Fetch{Kind: kind, Type: place, Key: key}, true
	}
	switch item.Kind {
	case api.FHave:
		return api.Fetch{Kind: api.GetHave, Type: place}, true
	case api.FMore:
		return byKey(api.GetFrom, full.Order)
	case api.FLess:
		return byKey(api.GetUpTo, full.Order)
	case api.FPart:
		return api.Fetch{Kind: api.GetPart, Type: place, Pieces: piecesOf(full.Part, item)}, true
	}
	if !goesByEquality(item, full) {
		return api.Fetch{}, false
	}
	return byKey(api.GetEqual, full.Equal)
}

// piecesOf: of an item that is known none of them is refused.
func piecesOf(rule int8, item api.Filter) []string {
	form, _ := schema.Form(rule)
	var pieces []string
	put := func(where int8, text string) {
		piece, _ := prep.Piece(form, where, text)
		pieces = append(pieces, piece)
	}
	put(api.AtStart, item.Start)
	for _, middle := range item.Middles {
		put(api.AtMiddle, middle)
	}
	put(api.AtEnd, item.End)
	return pieces
}

// goesByEquality tells whether an FEqual, FLike or FRule that is known asks for the key under the type's own rule for equality, and for nothing else.
func goesByEquality(item api.Filter, full api.Type) bool {
	switch item.Kind {
	case api.FLike:
		return full.Syntax != api.SynText
	case api.FRule:
		return !item.Dn && (item.Rule == "" || schema.Rule(item.Rule) == full.Equal)
	}
	return true
}
