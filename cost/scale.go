package cost

import (
	"math"
	"slices"

	"roster/api"
)

// scale weighs plans that may be.
type scale struct {
	guess func(q api.Fetch) float64
	all   float64 // as it counts
}

func scaleOf(guess func(q api.Fetch) float64, all float64) scale {
	return scale{guess, counted(all)}
}

// counted is what a guess counts as. What is no number is not from 0 on either.
func counted(guess float64) float64 {
	if guess >= 0 {
		return guess
	}
	return math.Inf(1)
}

// fetch: guess is shown a twin, since it may write there.
func (c scale) fetch(q api.Fetch) float64 {
	if c.guess == nil {
		return 0
	}
	return counted(c.guess(twin(q)))
}

func (c scale) of(p api.Plan) float64 {
	switch p.How {
	case api.PlAll:
		return c.all
	case api.PlFetch:
		return c.fetch(p.Fetch)
	case api.PlTest, api.PlLess:
		return c.of(p.Kids[0])
	case api.PlAnd:
		return c.least(p.Kids)
	case api.PlOr:
		return c.sum(p.Kids)
	}
	return 0
}

func (c scale) least(plans []api.Plan) float64 {
	least := math.Inf(1)
	for _, p := range plans {
		least = min(least, c.of(p))
	}
	return least
}

func (c scale) sum(plans []api.Plan) float64 {
	sum := 0.0
	for _, p := range plans {
		sum += c.of(p)
	}
	return sum
}

func twin(q api.Fetch) api.Fetch {
	q.Pieces = slices.Clone(q.Pieces)
	return q
}

// outline is all of a plan on which its Size hangs, with kids of its own.
func outline(p api.Plan) api.Plan {
	kids := make([]api.Plan, len(p.Kids))
	for i, kid := range p.Kids {
		kids[i] = outline(kid)
	}
	return api.Plan{How: p.How, Fetch: twin(p.Fetch), Kids: kids}
}
