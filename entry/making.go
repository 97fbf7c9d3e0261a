package entry

import (
	"slices"

	"roster/api"
	"roster/match"
	"roster/schema"
)

// making is an entry in the making.
type making struct {
	schema *schema.Schema
	attrs  map[string]*attribute // by their Canons
	size   int                   // how many bytes the Canons and all values have
}

// attribute is the values under one Canon; none of them is the same as another one.
type attribute struct {
	place  int // of its type
	kind   api.Type
	values map[string]written // by their marks
}

// written is a value as it was written.
type written struct {
	text string
}

// gather takes an entry's attributes one by one, as P8.1 has it.
func gather(s *schema.Schema, e api.Entry) (*making, api.Errno, int) {
	if s == nil {
		return nil, api.ErrNil, 0
	}
	if len(e.Attrs) > api.MaxAttrs {
		return nil, api.ErrLong, 0
	}
	m := &making{schema: s, attrs: map[string]*attribute{}}
	if wrong, at := m.takeAll(e.Attrs); wrong != api.OK {
		return nil, wrong, at
	}
	return m, api.OK, 0
}

func (m *making) takeAll(attrs []api.Attr) (wrong api.Errno, at int) {
	var attr api.Attr
attributes:
	for at, attr = range attrs {
		var a *attribute
		if a, wrong = m.openFor(attr); wrong != api.OK {
			break attributes
		}
		for _, value := range attr.Values {
			if wrong = m.take(a, value); wrong != api.OK {
				break attributes
			}
		}
	}
	if wrong == api.OK {
		return api.OK, 0
	}
	return wrong, at
}

func (m *making) openFor(attr api.Attr) (*attribute, api.Errno) {
	a, _, wrong := m.open(attr.Desc)
	switch {
	case wrong != api.OK:
		return nil, wrong
	case len(attr.Values) == 0:
		return nil, api.ErrLack
	case len(attr.Values) > api.MaxValues:
		return nil, api.ErrLong
	}
	return a, api.OK
}

// take puts a value in, and looks whether there is room for it.
func (m *making) take(a *attribute, value string) api.Errno {
	if len(value) > api.MaxText {
		return api.ErrLong
	}
	if wrong := m.put(a, value); wrong != api.OK {
		return wrong
	}
	return m.room(a)
}

// open finds the attribute of a description, or begins it; with it goes its Canon.
func (m *making) open(desc string) (*attribute, string, api.Errno) {
	canon, wrong := m.schema.Canon(desc)
	if wrong != api.OK {
		return nil, "", wrong
	}
	a := m.attrs[canon]
	if a == nil {
		place, _, _ := m.schema.Desc(canon)
		a = &attribute{place: place, kind: m.schema.Full(place), values: map[string]written{}}
		m.attrs[canon] = a
		m.size += len(canon)
	}
	return a, canon, api.OK
}

// put puts a value in.
func (m *making) put(a *attribute, value string) api.Errno {
	if !match.Fits(m.schema, a.place, value) {
		return api.ErrValue
	}
	mark, _ := m.mark(a, value)
	if _, have := a.values[mark]; have {
		return api.ErrHave
	}
	a.values[mark] = written{value}
	m.size += len(value)
	return api.OK
}

// drop takes the value that is the same as this one out.
func (m *making) drop(a *attribute, value string) api.Errno {
	mark, has := m.mark(a, value)
	own, have := a.values[mark]
	if !has || !have {
		return api.ErrLack
	}
	delete(a.values, mark)
	m.size -= len(own.text)
	return api.OK
}

// dropAll takes all values out.
func (m *making) dropAll(a *attribute) {
	for mark, own := range a.values {
		delete(a.values, mark)
		m.size -= len(own.text)
	}
}

// mark is what two values of an attribute have in common just if they are the same (match.Same): their key, or, without a rule for equality, their bytes. What has none is the same as no value that fits.
func (m *making) mark(a *attribute, value string) (string, bool) {
	if a.kind.Equal == api.RuleNone {
		return value, true
	}
	return match.Key(m.schema, a.kind.Equal, value)
}

// room tells whether there is more than may be, where there is more of this attribute than before.
func (m *making) room(a *attribute) api.Errno {
	if len(m.attrs) > api.MaxAttrs || len(a.values) > api.MaxValues || m.size > api.MaxBytes {
		return api.ErrLong
	}
	return api.OK
}

func (m *making) tidy() api.Entry {
	canons := make([]string, 0, len(m.attrs))
	for canon := range m.attrs {
		canons = append(canons, canon)
	}
	slices.Sort(canons)
	attrs := make([]api.Attr, 0, len(canons))
	for _, canon := range canons {
		attrs = append(attrs, api.Attr{Desc: canon, Values: m.attrs[canon].sorted()})
	}
	return api.Entry{Attrs: attrs}
}

// sorted has the values in the order of their marks, which is that of their keys, or of their bytes; no two have one.
func (a *attribute) sorted() []string {
	marks := make([]string, 0, len(a.values))
	for mark := range a.values {
		marks = append(marks, mark)
	}
	slices.Sort(marks)
	values := make([]string, 0, len(marks))
	for _, mark := range marks {
		values = append(values, a.values[mark].text)
	}
	return values
}
