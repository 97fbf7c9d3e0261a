package shape

import (
	"cmp"
	"slices"

	"roster/api"
	"roster/filter"
	"roster/schema"
)

// normal is the normal form of a filter that may be.
func normal(f api.Filter) laid { return settled(lay(f, false)) }

// settled has the kids rising, each once. They are spread again: an Or of Ands that turn out to be the same becomes that And, which may stand in another one.
func settled(l laid) laid {
	switch own := l.(type) {
	case joint:
		kids := make([]laid, len(own.kids))
		for i, kid := range own.kids {
			kids[i] = settled(kid)
		}
		kids = spread(own.how, kids)
		slices.SortFunc(kids, order)
		return joined(own.how, slices.CompactFunc(kids, isSame))
	}
	return l
}

// order is that of filter.Cmp, which is asked of items alone: of greater filters it would look through all parts at each step of a sort.
func order(a, b laid) int {
	if kinds := cmp.Compare(a.kind(), b.kind()); kinds != 0 {
		return kinds
	}
	switch own := a.(type) {
	case literal:
		if other, ok := b.(literal); ok {
			return filter.Cmp(own.item, other.item)
		}
	case joint:
		if other, ok := b.(joint); ok {
			return slices.CompareFunc(own.kids, other.kids, order)
		}
	}
	return 0
}

func isSame(a, b laid) bool { return order(a, b) == 0 }

// left is what is left of a normal form without its void literals; false, if that is nothing.
func left(s *schema.Schema, l laid) (laid, bool) {
	switch own := l.(type) {
	case literal:
		if filter.Known(s, own.item) {
			return own, true
		}
	case joint:
		return leftOf(s, own)
	}
	return nil, false
}

func leftOf(s *schema.Schema, j joint) (laid, bool) {
	kids := make([]laid, 0, len(j.kids))
	for _, kid := range j.kids {
		rest, some := left(s, kid)
		switch {
		case some:
			kids = append(kids, rest)
		case j.how == api.FAnd:
			return nil, false
		}
	}
	if len(kids) == 0 {
		return nil, false
	}
	return joined(j.how, kids), true
}
