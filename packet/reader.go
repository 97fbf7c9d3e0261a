package packet

import (
	"roster/api"
	"roster/ber"
	"roster/filter"
)

// fault is what is wrong with the item that begins at a place. It ends the whole reading by a panic, which Take catches.
type fault struct {
	code api.Errno
	at   int
}

func must(wrong api.Errno, at int) {
	if wrong != api.OK {
		panic(fault{wrong, at})
	}
}

// reader reads one filter.
type reader struct {
	bytes []byte
	parts int // Nots not counted
}

// part reads one that stands in so many others, and tells the place behind it.
func (r *reader) part(at, end, above int) (api.Filter, int) {
	x := r.item(at, end)
	if above >= api.MaxDepth {
		panic(fault{api.ErrDeep, at})
	}
	if x.tag != tagNot {
		r.parts++
	}
	if r.parts > api.MaxNodes {
		panic(fault{api.ErrLong, at})
	}
	return x.filter(above + 1), x.To
}

// item reads a header; what stands in the item is not looked at yet.
func (r *reader) item(at, end int) *item {
	head, wrong := ber.Head(r.bytes, at, end)
	must(wrong, at)
	return &item{Tlv: head, from: r, tag: r.bytes[at], at: at, next: head.From}
}

// item is one whose body is read item by item.
type item struct {
	api.Tlv
	from *reader
	tag  byte
	at   int // where the item begins
	next int // where in its body that begins which is not read yet
}

func (x *item) isLeft() bool { return x.next < x.To }

// need: one more item must come.
func (x *item) need() {
	if !x.isLeft() {
		panic(fault{api.ErrFilter, x.at})
	}
}

// end: no more items may come.
func (x *item) end() {
	if x.isLeft() {
		behind := x.from.item(x.next, x.To)
		panic(fault{api.ErrMore, behind.at})
	}
}

// comes tells whether an item of that tag is next.
func (x *item) comes(tag byte) bool {
	return x.isLeft() && x.from.item(x.next, x.To).tag == tag
}

// take reads the header of the next item, which must be of that tag.
func (x *item) take(tag byte) *item {
	x.need()
	next := x.from.item(x.next, x.To)
	if next.tag != tag {
		panic(fault{api.ErrTag, next.at})
	}
	x.next = next.To
	return next
}

func (x *item) text() string {
	if x.To-x.From > api.MaxText {
		panic(fault{api.ErrLong, x.at})
	}
	s, wrong := ber.Text(x.from.bytes, x.Tlv)
	must(wrong, x.at)
	return s
}

func (x *item) flag() bool {
	v, wrong := ber.Flag(x.from.bytes, x.Tlv)
	must(wrong, x.at)
	return v
}

// filter reads the filter that the item is; its kids stand in so many parts.
func (x *item) filter(above int) api.Filter {
	switch x.tag {
	case tagAnd:
		return api.Filter{Kind: api.FAnd, Kids: x.kids(above)}
	case tagOr:
		return api.Filter{Kind: api.FOr, Kids: x.kids(above)}
	case tagNot:
		return api.Filter{Kind: api.FNot, Kids: x.onlyKid(above)}
	case tagEqual:
		return x.against(api.FEqual)
	case tagMore:
		return x.against(api.FMore)
	case tagLess:
		return x.against(api.FLess)
	case tagLike:
		return x.against(api.FLike)
	case tagHave:
		return x.checked(api.Filter{Kind: api.FHave, Desc: x.text()})
	case tagPart:
		return x.checked(x.part())
	case tagRule:
		return x.checked(x.rule())
	}
	panic(fault{api.ErrTag, x.at})
}

// checked: what an item says may be.
func (x *item) checked(f api.Filter) api.Filter {
	if wrong, _, _ := filter.Check(f); wrong != api.OK {
		panic(fault{api.ErrFilter, x.at})
	}
	return f
}

func (x *item) kid(above int) (kid api.Filter) {
	x.need()
	kid, x.next = x.from.part(x.next, x.To, above)
	return kid
}

func (x *item) kids(above int) []api.Filter {
	kids := []api.Filter{x.kid(above)}
	for x.isLeft() {
		kids = append(kids, x.kid(above))
	}
	return kids
}

func (x *item) onlyKid(above int) []api.Filter {
	kids := []api.Filter{x.kid(above)}
	x.end()
	return kids
}

func (x *item) against(kind int8) api.Filter {
	f := api.Filter{Kind: kind}
	f.Desc = x.take(tagText).text()
	f.Value = x.take(tagText).text()
	x.end()
	return x.checked(f)
}

func (x *item) part() api.Filter {
	f := api.Filter{Kind: api.FPart}
	f.Desc = x.take(tagText).text()
	x.take(tagPieces).pieces(&f)
	x.end()
	if f.Start == "" && len(f.Middles) == 0 && f.End == "" {
		f.Kind = api.FHave
	}
	return f
}

// pieces: those without bytes say nothing.
func (x *item) pieces(f *api.Filter) {
	x.need()
	if x.comes(tagStart) {
		f.Start = x.take(tagStart).text()
	}
	for x.comes(tagMiddle) {
		if middle := x.take(tagMiddle).text(); middle != "" {
			f.Middles = append(f.Middles, middle)
		}
	}
	if x.isLeft() {
		f.End = x.take(tagEnd).text()
	}
	x.end()
}

func (x *item) rule() api.Filter {
	f := api.Filter{Kind: api.FRule}
	if x.comes(tagRuleWord) {
		f.Rule = x.take(tagRuleWord).text()
	}
	if x.comes(tagRuleDesc) {
		f.Desc = x.take(tagRuleDesc).text()
	}
	f.Value = x.take(tagRuleValue).text()
	if x.isLeft() {
		f.Dn = x.take(tagRuleDn).flag()
	}
	x.end()
	return f
}
