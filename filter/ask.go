package filter

import (
	"strings"

	"roster/api"
	"roster/match"
	"roster/schema"
)

// nowhere is the place of a type that the schema does not have.
const nowhere = -1

// asking is what an item asks of values.
type asking interface {
	known() bool
	matches(value string) bool // where it is known
}

// ask has what an item asks, by the rules of its Desc's type; a type that is not known has none.
func ask(s *schema.Schema, item api.Filter) asking {
	place := placeOf(s, item.Desc)
	kind := s.Full(place)
	switch item.Kind {
	case api.FEqual:
		return equal{keyBy(s, kind.Equal, item.Value)}
	case api.FMore:
		return more{keyBy(s, kind.Order, item.Value)}
	case api.FLess:
		return less{keyBy(s, kind.Order, item.Value)}
	case api.FHave:
		return have{place}
	case api.FPart:
		return pieces{s, kind.Part, item}
	case api.FLike:
		return like{s, place, item.Value}
	}
	return ruled{keyBy(s, ruleOf(item, place, kind), item.Value), item}
}

func placeOf(s *schema.Schema, desc string) int {
	place, _, wrong := s.Desc(desc)
	if wrong != api.OK {
		return nowhere
	}
	return place
}

// key is what is asked for under a rule; it is made once for all values.
type key struct {
	schema *schema.Schema
	rule   int8
	text   string
	there  bool
}

func keyBy(s *schema.Schema, rule int8, value string) key {
	text, there := match.Key(s, rule, value)
	return key{s, rule, text, there}
}

func (k key) known() bool { return k.there }

// order tells how a value's key stands to it, and whether the value has one.
func (k key) order(value string) (int, bool) {
	text, there := match.Key(k.schema, k.rule, value)
	return strings.Compare(text, k.text), there
}

type equal struct{ key }

func (a equal) matches(value string) bool {
	order, there := a.order(value)
	return there && order == 0
}

type more struct{ key }

func (a more) matches(value string) bool {
	order, there := a.order(value)
	return there && order >= 0
}

type less struct{ key }

func (a less) matches(value string) bool {
	order, there := a.order(value)
	return there && order <= 0
}

type have struct{ place int }

func (a have) known() bool { return a.place != nowhere }

func (a have) matches(value string) bool { return true }

type pieces struct {
	schema *schema.Schema
	rule   int8
	item   api.Filter
}

// known: whether they can be pieces hangs on no value.
func (a pieces) known() bool { return a.says("") != api.Unknown }

func (a pieces) matches(value string) bool { return a.says(value) == api.Yes }

func (a pieces) says(value string) api.Truth {
	return match.Part(a.schema, a.rule, value, a.item.Start, a.item.Middles, a.item.End)
}

type like struct {
	schema *schema.Schema
	place  int
	asked  string
}

// known: whether it can be asked for hangs on no value.
func (a like) known() bool { return a.says("") != api.Unknown }

func (a like) matches(value string) bool { return a.says(value) == api.Yes }

func (a like) says(value string) api.Truth {
	return match.Like(a.schema, a.place, value, a.asked)
}

// ruled is what an extensible item asks.
type ruled struct {
	key
	item api.Filter
}

func (a ruled) matches(value string) bool { return equal{a.key}.matches(value) }
