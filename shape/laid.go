package shape

import (
	"roster/api"
	"roster/filter"
)

// laid is a filter that may be, as it is on its way to its normal form: a literal or a joint.
type laid interface {
	kind() int8 // of the filter that it is
}

// literal is an item, or Not of it. The item is still the caller's: plain makes it new.
type literal struct {
	item api.Filter
	not  bool
}

func (l literal) kind() int8 {
	if l.not {
		return api.FNot
	}
	return l.item.Kind
}

// joint is an And or an Or of two or more.
type joint struct {
	how  int8
	kids []laid
}

func (j joint) kind() int8 { return j.how }

// lay has f, or Not of f, with all Nots brought down to the items, and with each And or Or that stands in one of its own kind spread over it: so kids need be put in order but once, however deep they stood in one another.
func lay(f api.Filter, not bool) laid {
	switch f.Kind {
	case api.FNot:
		return lay(f.Kids[0], !not)
	case api.FAnd, api.FOr:
		kids := make([]laid, len(f.Kids))
		for i, kid := range f.Kids {
			kids[i] = lay(kid, not)
		}
		how := turned(f.Kind, not)
		return joined(how, spread(how, kids))
	}
	return literal{f, not}
}

// turned has what And and Or become below a Not.
func turned(how int8, not bool) int8 {
	switch {
	case !not:
		return how
	case how == api.FAnd:
		return api.FOr
	}
	return api.FAnd
}

// joined: one alone stands for itself.
func joined(how int8, kids []laid) laid {
	if len(kids) == 1 {
		return kids[0]
	}
	return joint{how, kids}
}

// spread has a list of its own with the kids of an And or Or, those of its own kind replaced by theirs.
func spread(how int8, kids []laid) []laid {
	rows, many := make([][]laid, len(kids)), 0
	for i, kid := range kids {
		rows[i] = inPlaceOf(kid, how)
		many += len(rows[i])
	}
	out, at := make([]laid, many), 0
	for _, row := range rows {
		at += copy(out[at:], row)
	}
	return out
}

func inPlaceOf(kid laid, how int8) []laid {
	switch own := kid.(type) {
	case joint:
		if own.how == how {
			return own.kids
		}
	}
	return []laid{kid}
}

// plain is what was laid as a filter, in new memory.
func plain(l laid) api.Filter {
	switch own := l.(type) {
	case literal:
		item := filter.Twin(own.item)
		if own.not {
			return api.Filter{Kind: api.FNot, Kids: []api.Filter{item}}
		}
		return item
	case joint:
		kids := make([]api.Filter, len(own.kids))
		for i, kid := range own.kids {
			kids[i] = plain(kid)
		}
		return api.Filter{Kind: own.how, Kids: kids}
	}
	return api.Filter{}
}
