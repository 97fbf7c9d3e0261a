package cost

import (
	"cmp"
	"slices"

	"roster/api"
	"roster/filter"
	"roster/schema"
)

// Of an And the kids are taken whose Sizes are at most so many times the least one's, and so many more.
const (
	takenTimes = 8
	takenMore  = 16
)

// planner makes plans of filters that may be and are nobody else's: no two parts of a plan hold the same part of the filter.
type planner struct {
	schema *schema.Schema
	can    func(q api.Fetch) bool
	scale  scale
}

// planned is a plan with its Size, and whether it is direct: so neither is looked for anew above it.
type planned struct {
	plan   api.Plan
	size   float64
	direct bool
}

func (p planner) of(f api.Filter) planned {
	switch f.Kind {
	case api.FAnd:
		return p.and(f)
	case api.FOr:
		return p.or(f)
	case api.FNot:
		return p.not(f)
	}
	return p.item(f)
}

func (p planner) item(f api.Filter) planned {
	if !filter.Known(p.schema, f) {
		return nothing()
	}
	q, exact, ok := asked(p.schema, f)
	if !ok || !p.lets(q) {
		return tested(f, p.all())
	}
	fetch := planned{api.Plan{How: api.PlFetch, Fetch: q}, p.scale.fetch(q), true}
	if exact {
		return fetch
	}
	return tested(f, fetch)
}

// lets: can is shown a twin, since it may write there.
func (p planner) lets(q api.Fetch) bool {
	return p.can != nil && p.can(twin(q))
}

func (p planner) not(f api.Filter) planned {
	if kid := f.Kids[0]; isItem(kid) {
		within := p.item(kid)
		switch within.plan.How {
		case api.PlNothing:
			return nothing()
		case api.PlFetch:
			all := p.all()
			return planned{api.Plan{How: api.PlLess, Kids: []api.Plan{all.plan, within.plan}}, all.size, false}
		}
	}
	return tested(f, p.all())
}

func (p planner) and(f api.Filter) planned {
	kids := make([]planned, len(f.Kids))
	for place, kid := range f.Kids {
		kids[place] = p.of(kid)
		if kids[place].isNothing() {
			return nothing()
		}
	}
	places := cheap(kids)
	if len(places) == 0 {
		return tested(f, p.all())
	}
	taken := map[int]struct{}{}
	chosen := make([]planned, len(places))
	for i, place := range places {
		taken[place] = struct{}{}
		chosen[i] = kids[place]
	}
	var rest []api.Filter
	for place, kid := range f.Kids {
		if _, is := taken[place]; !is {
			rest = append(rest, kid)
		}
	}
	return testedAll(rest, joined(api.PlAnd, chosen, chosen[0].size))
}

// cheap has the places of the kids that are taken, in order.
func cheap(kids []planned) []int {
	var places []int
	for place, kid := range kids {
		if kid.direct {
			places = append(places, place)
		}
	}
	if len(places) == 0 {
		return nil
	}
	slices.SortStableFunc(places, func(a, b int) int { return cmp.Compare(kids[a].size, kids[b].size) })
	// The conversion keeps the product from being joined with the sum into one step.
	most := float64(takenTimes*kids[places[0]].size) + takenMore
	for i, place := range places {
		if kids[place].size > most {
			return places[:i]
		}
	}
	return places
}

func (p planner) or(f api.Filter) planned {
	var left []planned
	sum := 0.0
	for _, kid := range f.Kids {
		one := p.of(kid)
		if one.isNothing() {
			continue
		}
		if !one.direct {
			return tested(f, p.all())
		}
		left = append(left, one)
		sum += one.size
	}
	switch {
	case len(left) == 0:
		return nothing()
	case sum <= p.scale.all:
		return joined(api.PlOr, left, sum)
	}
	return tested(f, p.all())
}

func (p planner) all() planned {
	return planned{api.Plan{How: api.PlAll}, p.scale.all, false}
}

func nothing() planned {
	return planned{api.Plan{How: api.PlNothing}, 0, true}
}

func (p planned) isNothing() bool { return p.plan.How == api.PlNothing }

func tested(f api.Filter, kid planned) planned {
	return planned{api.Plan{How: api.PlTest, Filter: f, Kids: []api.Plan{kid.plan}}, kid.size, kid.direct}
}

// testedAll tests all these of what kid tells.
func testedAll(filters []api.Filter, kid planned) planned {
	switch len(filters) {
	case 0:
		return kid
	case 1:
		return tested(filters[0], kid)
	}
	return tested(api.Filter{Kind: api.FAnd, Kids: filters}, kid)
}

// joined has direct plans together, with what Size says of these; one alone stands for itself.
func joined(how int8, kids []planned, size float64) planned {
	if len(kids) == 1 {
		return kids[0]
	}
	plans := make([]api.Plan, len(kids))
	for i, kid := range kids {
		plans[i] = kid.plan
	}
	return planned{api.Plan{How: how, Kids: plans}, size, true}
}
