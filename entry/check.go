package entry

import (
	"slices"

	"roster/api"
)

// check is what P8.2 asks of the tidy entry that was made.
func (m *making) check(tidy api.Entry) (api.Errno, int) {
	canon, _ := m.schema.Canon("objectClass")
	classes := m.attrs[canon]
	if classes == nil {
		return api.ErrClass, 0
	}
	must, may, wrong := m.schema.Needs(classes.sorted())
	if wrong != api.OK {
		return api.ErrClass, 0
	}
	many := m.count()
	if m.lacks(must, many) {
		return api.ErrMust, 0
	}
	may = append(may, classes.place)
	at := m.first(tidy, func(a *attribute) bool { return !slices.Contains(must, a.place) && !slices.Contains(may, a.place) })
	if at >= 0 {
		return api.ErrMay, at
	}
	at = m.first(tidy, func(a *attribute) bool { return a.kind.Single && many[a.place] > 1 })
	if at >= 0 {
		return api.ErrMany, at
	}
	return api.OK, 0
}

// count tells how many values each type has, under all its descriptions together.
func (m *making) count() map[int]int {
	many := map[int]int{}
	for _, a := range m.attrs {
		many[a.place] += len(a.values)
	}
	return many
}

// lacks tells whether there is a type that must be of which, and of all types below which, there are no values.
func (m *making) lacks(must []int, many map[int]int) bool {
	return slices.ContainsFunc(must, func(place int) bool {
		return !slices.ContainsFunc(m.schema.Below(place), func(low int) bool { return many[low] > 0 })
	})
}

// first is the place in the tidy entry of the first attribute of which it holds; -1, if it holds of none.
func (m *making) first(tidy api.Entry, holds func(*attribute) bool) int {
	return slices.IndexFunc(tidy.Attrs, func(attr api.Attr) bool { return holds(m.attrs[attr.Desc]) })
}
