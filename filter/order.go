package filter

import (
	"cmp"
	"slices"
	"strings"

	"roster/api"
)

// compare: of filters that may be, whose kids need not be looked at again for that.
func compare(a, b api.Filter) int {
	own := cmp.Or(
		cmp.Compare(a.Kind, b.Kind),
		strings.Compare(a.Desc, b.Desc),
		strings.Compare(a.Value, b.Value),
		strings.Compare(a.Start, b.Start),
		slices.Compare(a.Middles, b.Middles),
		strings.Compare(a.End, b.End),
		strings.Compare(a.Rule, b.Rule),
		falseFirst(a.Dn, b.Dn),
	)
	if own != 0 {
		return own
	}
	return slices.CompareFunc(a.Kids, b.Kids, compare)
}

func falseFirst(a, b bool) int {
	switch {
	case a == b:
		return 0
	case b:
		return -1
	}
	return 1
}

// twin: of a filter that may be.
func twin(f api.Filter) api.Filter {
	f.Middles = slices.Clone(f.Middles)
	f.Kids = slices.Clone(f.Kids)
	for i, kid := range f.Kids {
		f.Kids[i] = twin(kid)
	}
	return f
}
