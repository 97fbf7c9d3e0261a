package compile

import (
	"roster/api"
	"roster/cost"
	"roster/shape"
	"roster/store"
)

// checked is a plan's part, or what cost.Check has against it.
func checked(p api.Plan) part {
	if wrong, _ := cost.Check(p); wrong != api.OK {
		return refused(wrong)
	}
	return partOf(p)
}

// planned goes the way from a filter to a plan, which may end early: with an error, or where nothing is left to be looked for.
func planned(t *store.Store, f api.Filter, guess func(q api.Fetch) float64) part {
	rest, some, wrong := shape.Bare(t.Schema(), f)
	if wrong != api.OK {
		return refused(wrong)
	}
	if !some {
		return single(api.OpNothing)
	}
	if guess == nil {
		guess = func(q api.Fetch) float64 { return float64(t.Count(q)) }
	}
	p, wrong := cost.Plan(t.Schema(), rest, t.Can, guess, float64(t.Len()))
	if wrong != api.OK {
		return refused(wrong)
	}
	return checked(p)
}

// program has what a part lays, each constant at the place that its instruction names.
func program(of part) (api.Program, api.Errno) {
	switch own := of.(type) {
	case refused:
		return api.Program{}, api.Errno(own)
	}
	var p api.Program
	of.lay(func(op uint8, own ...api.Const) {
		i := api.Instr{Op: op}
		if len(own) > 0 {
			i.Arg = len(p.Consts)
		}
		p.Code, p.Consts = append(p.Code, i), append(p.Consts, own...)
	})
	return p, api.OK
}
