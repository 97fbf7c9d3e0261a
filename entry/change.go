package entry

import (
	"roster/api"
	"roster/match"
	"roster/prep"
)

// deed is what an Op does to an attribute with its values.
type deed func(m *making, a *attribute, values []string) api.Errno

func deeds() map[int8]deed {
	return map[int8]deed{
		api.ModAdd:     (*making).add,
		api.ModDelete:  (*making).remove,
		api.ModReplace: (*making).replace,
		api.ModMore:    (*making).more,
	}
}

// changeAll makes the changes one behind the other. What a change that can't be has done by then is left there: nothing of it is told.
func (m *making) changeAll(mods []api.Mod) (api.Errno, int) {
	all := deeds()
	for at, mod := range mods {
		if wrong := m.change(all[mod.Op], mod.Attr); wrong != api.OK {
			return wrong, at
		}
	}
	return api.OK, 0
}

func (m *making) change(do deed, attr api.Attr) api.Errno {
	if do == nil {
		return api.ErrMod
	}
	a, canon, wrong := m.open(attr.Desc)
	if wrong != api.OK {
		return wrong
	}
	if areLong(attr.Values) {
		return api.ErrLong
	}
	if wrong := do(m, a, attr.Values); wrong != api.OK {
		return wrong
	}
	if len(a.values) == 0 {
		delete(m.attrs, canon)
		m.size -= len(canon)
	}
	return m.room(a)
}

func areLong(values []string) bool {
	if len(values) > api.MaxValues {
		return true
	}
	for _, value := range values {
		if len(value) > api.MaxText {
			return true
		}
	}
	return false
}

func (m *making) add(a *attribute, values []string) api.Errno {
	if len(values) == 0 {
		return api.ErrLack
	}
	return m.putAll(a, values)
}

func (m *making) remove(a *attribute, values []string) api.Errno {
	if len(values) == 0 {
		if len(a.values) == 0 {
			return api.ErrLack
		}
		m.dropAll(a)
	}
	for _, value := range values {
		if wrong := m.drop(a, value); wrong != api.OK {
			return wrong
		}
	}
	return api.OK
}

func (m *making) replace(a *attribute, values []string) api.Errno {
	m.dropAll(a)
	return m.putAll(a, values)
}

func (m *making) more(a *attribute, values []string) api.Errno {
	if len(values) != 1 || a.kind.Syntax != api.SynNumber {
		return api.ErrMod
	}
	if !match.Fits(m.schema, a.place, values[0]) {
		return api.ErrValue
	}
	if len(a.values) == 0 {
		return api.ErrLack
	}
	sums := make([]string, 0, len(a.values))
	for _, own := range a.values {
		sum, can := prep.Add(own.text, values[0])
		if !can {
			return api.ErrValue
		}
		sums = append(sums, sum)
	}
	// No two values are one number, so no two sums are.
	return m.replace(a, sums)
}

func (m *making) putAll(a *attribute, values []string) api.Errno {
	for _, value := range values {
		if wrong := m.put(a, value); wrong != api.OK {
			return wrong
		}
	}
	return api.OK
}
