package index

import (
	"slices"

	"roster/api"
	"roster/entry"
	"roster/gram"
	"roster/match"
	"roster/schema"
)

// ledger is where numbers stand under keys.
type ledger interface {
	Put(id uint64, key string)
	Drop(id uint64, key string)
}

// book is a ledger, and the key under which a value is written down there; a value without one isn't.
type book struct {
	bit   uint8 // of a type's Index: asks for the book
	in    ledger
	keyOf func(value string) (string, bool)
}

// note says that a number stands in a ledger under a key.
type note struct {
	in  ledger
	key string
}

// shelf is what is written down of one type's covered values.
type shelf struct {
	desc  string // the type's name alone
	bits  uint8
	have  numbers
	equal tree
	order tree
	parts *gram.Index
	books []book // those of the four that the type's Index asks for
}

func newShelf(s *schema.Schema, full api.Type) shelf {
	h := shelf{desc: full.Names[0], bits: full.Index, have: numbers{}, equal: newTree(), order: newTree(), parts: gram.New()}
	under := func(rule int8) func(string) (string, bool) {
		return func(value string) (string, bool) { return match.Key(s, rule, value) }
	}
	all := [...]book{
		{api.IxHave, h.have, func(string) (string, bool) { return "", true }}, // one without a key is a value, too
		{api.IxEqual, h.equal, under(full.Equal)},
		{api.IxOrder, h.order, under(full.Order)},
		{api.IxPart, h.parts, under(full.Part)},
	}
	for _, b := range all {
		if full.Index&b.bit != 0 {
			h.books = append(h.books, b)
		}
	}
	return h
}

// notes are what is to be written down of an entry.
func (h shelf) notes(s *schema.Schema, e api.Entry) []note {
	if len(h.books) == 0 {
		return nil
	}
	var values []string
	for _, value := range entry.Values(s, e, h.desc) {
		values = append(values, value)
	}
	var notes []note
	for _, b := range h.books {
		for _, key := range b.keysOf(values) {
			notes = append(notes, note{b.in, key})
		}
	}
	return notes
}

// keysOf has each key once: how many values of an entry have it tells nothing.
func (b book) keysOf(values []string) []string {
	var keys []string
	for _, value := range values {
		if key, has := b.keyOf(value); has {
			keys = append(keys, key)
		}
	}
	slices.Sort(keys)
	return slices.Compact(keys)
}

// finders tell what a fetch asks, by its Kind.
func (h shelf) finders(q api.Fetch) [kinds]func() found {
	return [kinds]func() found{
		api.GetHave:  func() found { return h.have },
		api.GetEqual: func() found { return h.equal.at(q.Key) },
		api.GetFrom:  func() found { return together(h.order.byKey.From(q.Key)) },
		api.GetUpTo:  func() found { return together(h.order.byKey.UpTo(q.Key)) },
		api.GetPart: func() found {
			those, _ := h.parts.Find(gram.Asked(q.Pieces))
			return rising(those)
		},
	}
}
