package cost

import (
	"iter"

	"roster/api"
	"roster/filter"
)

// How many parts a plan may have, and how deep they may stand in one another.
const (
	maxParts = 4 * api.MaxNodes
	maxDepth = 2 * api.MaxDepth
)

// parts goes over a plan's parts as they are counted, each with how deep it stands (the plan itself: 1). It is no function that calls itself: a plan's lists may hold themselves, and be left only when too many parts were seen.
func parts(p api.Plan) iter.Seq2[int, api.Plan] {
	return func(yield func(int, api.Plan) bool) {
		rows := [][]api.Plan{{p}} // of each level what is still to be gone over
		for len(rows) > 0 {
			last := len(rows) - 1
			if len(rows[last]) == 0 {
				rows = rows[:last]
				continue
			}
			part := rows[last][0]
			rows[last] = rows[last][1:]
			if !yield(len(rows), part) {
				return
			}
			rows = append(rows, part.Kids)
		}
	}
}

// bounds tells whether a plan keeps them. That it is too deep counts only if its parts are not too many.
func bounds(p api.Plan) api.Errno {
	many, deepest := 0, 0
	for depth := range parts(p) {
		many++
		deepest = max(deepest, depth)
		if many > maxParts {
			return api.ErrLong
		}
	}
	if deepest > maxDepth {
		return api.ErrDeep
	}
	return api.OK
}

// mayBe is asked of a part without its kids.
func mayBe(part api.Plan) bool {
	right, kids := false, len(part.Kids)
	switch part.How {
	case api.PlNothing, api.PlAll:
		right = kids == 0
	case api.PlFetch:
		right = kids == 0 && isFetch(part.Fetch)
		part.Fetch = api.Fetch{}
	case api.PlTest:
		right = kids == 1 && isFilter(part.Filter)
		part.Filter = api.Filter{}
	case api.PlAnd, api.PlOr:
		right = kids >= 1
	case api.PlLess:
		right = kids == 2
	}
	return right && isNoFetch(part.Fetch) && isNoFilter(part.Filter)
}

func isFilter(f api.Filter) bool {
	wrong, _, _ := filter.Check(f)
	return wrong == api.OK
}

func isFetch(q api.Fetch) bool {
	if q.Type < 0 || q.Type >= api.MaxTypes {
		return false
	}
	switch q.Kind {
	case api.GetHave:
		return q.Key == "" && len(q.Pieces) == 0
	case api.GetEqual, api.GetFrom, api.GetUpTo:
		return len(q.Key) <= maxKey && len(q.Pieces) == 0
	case api.GetPart:
		return q.Key == "" && arePieces(q.Pieces)
	}
	return false
}

func arePieces(pieces []string) bool {
	for _, piece := range pieces {
		if len(piece) > api.MaxText {
			return false
		}
	}
	return len(pieces) >= 2
}

func isNoFetch(q api.Fetch) bool {
	return q.Kind == 0 && q.Type == 0 && q.Key == "" && len(q.Pieces) == 0
}

func isNoFilter(f api.Filter) bool {
	texts := len(f.Desc) + len(f.Value) + len(f.Start) + len(f.End) + len(f.Rule)
	return f.Kind == 0 && texts == 0 && len(f.Kids) == 0 && len(f.Middles) == 0 && !f.Dn
}
