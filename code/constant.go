package code

import (
	"roster/api"
	"roster/filter"
)

// maxKey is how many bytes a fetch's Key may have.
const maxKey = 8 * api.MaxText

// constant is a fetch or a test.
type constant interface {
	words() []string // what a line tells of it
}

type fetch struct{ api.Fetch }

type test struct{ api.Filter }

// constantOf is what Test says that c is; what c has of the other one is left out.
func constantOf(c api.Const) constant {
	if c.Test {
		return test{c.Filter}
	}
	return fetch{c.Fetch}
}

func mayBe(c api.Const) bool {
	switch x := constantOf(c).(type) {
	case fetch:
		return isNoFilter(c.Filter) && x.isRight()
	case test:
		return isNoFetch(c.Fetch) && x.isRight()
	}
	return false
}

func (q fetch) isRight() bool {
	if q.Type < 0 || q.Type >= api.MaxTypes {
		return false
	}
	switch q.Kind {
	case api.GetHave:
		return q.Key == "" && len(q.Pieces) == 0
	case api.GetEqual, api.GetFrom, api.GetUpTo:
		return len(q.Key) <= maxKey && len(q.Pieces) == 0
	case api.GetPart:
		return q.Key == "" && arePieces(q.Pieces)
	}
	return false
}

func arePieces(pieces []string) bool {
	for _, piece := range pieces {
		if len(piece) > api.MaxText {
			return false
		}
	}
	return len(pieces) >= 2
}

func (f test) isRight() bool {
	wrong, _, _ := filter.Check(f.Filter)
	return wrong == api.OK
}

func isNoFetch(q api.Fetch) bool {
	return q.Kind == 0 && q.Type == 0 && q.Key == "" && len(q.Pieces) == 0
}

func isNoFilter(f api.Filter) bool {
	texts := len(f.Desc) + len(f.Value) + len(f.Start) + len(f.End) + len(f.Rule)
	return f.Kind == 0 && texts == 0 && len(f.Kids) == 0 && len(f.Middles) == 0 && !f.Dn
}
