package compile

import (
	"slices"

	"roster/api"
)

// putter lays one instruction behind those that are there, with the constant that is its own, if it has one.
type putter func(op uint8, own ...api.Const)

// part is a part of a plan, which lays its instructions; or refused, where there is no plan.
type part interface {
	lay(put putter)
}

// refused stands where a plan would: nothing is made of it but its error.
type refused api.Errno

func (r refused) lay(put putter) {}

// single is a part that is one instruction without a constant.
type single uint8

func (s single) lay(put putter) { put(uint8(s)) }

type fetch api.Fetch

func (q fetch) lay(put putter) {
	q.Pieces = slices.Clone(q.Pieces)
	put(api.OpFetch, api.Const{Fetch: api.Fetch(q)})
}

type test struct {
	filter api.Filter
	kid    api.Plan
}

func (t test) lay(put putter) {
	partOf(t.kid).lay(put)
	put(api.OpTest, api.Const{Test: true, Filter: twin(t.filter)})
}

// joint is kids that op makes one, two at a time: so no more than one list waits for all those behind it.
type joint struct {
	op   uint8
	kids []api.Plan
}

func (j joint) lay(put putter) {
	for i, kid := range j.kids {
		partOf(kid).lay(put)
		if i > 0 {
			put(j.op)
		}
	}
}

// partOf takes a plan that may be.
func partOf(p api.Plan) part {
	switch p.How {
	case api.PlNothing:
		return single(api.OpNothing)
	case api.PlAll:
		return single(api.OpAll)
	case api.PlFetch:
		return fetch(p.Fetch)
	case api.PlTest:
		return test{p.Filter, p.Kids[0]}
	case api.PlAnd:
		return joint{api.OpAnd, p.Kids}
	case api.PlOr:
		return joint{api.OpOr, p.Kids}
	case api.PlLess:
		return joint{api.OpLess, p.Kids}
	}
	return refused(api.ErrArg)
}

// twin is a filter that may be, in new memory: a plan is still the caller's.
func twin(f api.Filter) api.Filter {
	f.Middles, f.Kids = slices.Clone(f.Middles), slices.Clone(f.Kids)
	for i, kid := range f.Kids {
		f.Kids[i] = twin(kid)
	}
	return f
}
