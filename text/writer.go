package text

import (
	"roster/api"
	"roster/octet"
)

// writer lays a filter's text down; once it is longer than may be, no more of it, since values that stand in many places may be longer together than there is room.
type writer struct {
	text []byte
}

func (w *writer) isFull() bool {
	return len(w.text) > api.MaxBytes
}

func (w *writer) add(texts ...string) {
	for _, text := range texts {
		if !w.isFull() {
			w.text = append(w.text, text...)
		}
	}
}

func (w *writer) value(value string) {
	if !w.isFull() {
		w.add(octet.Escape(value))
	}
}

// filter: of one that may be.
func (w *writer) filter(f api.Filter) {
	w.add("(")
	switch f.Kind {
	case api.FAnd:
		w.kids("&", f)
	case api.FOr:
		w.kids("|", f)
	case api.FNot:
		w.kids("!", f)
	case api.FEqual:
		w.against("=", f)
	case api.FLike:
		w.against("~=", f)
	case api.FMore:
		w.against(">=", f)
	case api.FLess:
		w.against("<=", f)
	case api.FHave:
		w.add(f.Desc, "=*")
	case api.FPart:
		w.pieces(f)
	case api.FRule:
		w.ruled(f)
	}
	w.add(")")
}

func (w *writer) kids(sign string, f api.Filter) {
	w.add(sign)
	for _, kid := range f.Kids {
		w.filter(kid)
	}
}

func (w *writer) against(sign string, f api.Filter) {
	w.add(f.Desc, sign)
	w.value(f.Value)
}

func (w *writer) pieces(f api.Filter) {
	w.add(f.Desc, "=")
	w.value(f.Start)
	w.add("*")
	for _, middle := range f.Middles {
		w.value(middle)
		w.add("*")
	}
	w.value(f.End)
}

func (w *writer) ruled(f api.Filter) {
	w.add(f.Desc)
	if f.Dn {
		w.add(":dn")
	}
	if f.Rule != "" {
		w.add(":", f.Rule)
	}
	w.against(":=", api.Filter{Value: f.Value})
}
