package packet

import (
	"roster/api"
	"roster/ber"
)

// layer lays items by a writer; behind the writer's first error it lays nothing more.
type layer struct {
	to    *ber.Writer
	wrong api.Errno
}

func (l *layer) text(tag byte, s string) {
	if l.wrong == api.OK {
		l.wrong = l.to.Text(classOf(tag), numberOf(tag), s)
	}
}

func (l *layer) flag(tag byte, v bool) {
	if l.wrong == api.OK {
		l.wrong = l.to.Flag(classOf(tag), numberOf(tag), v)
	}
}

// around lays an item that is made of what layBody lays.
func (l *layer) around(tag byte, layBody func()) {
	if l.wrong == api.OK {
		l.wrong = l.to.Open(classOf(tag), numberOf(tag))
	}
	layBody()
	if l.wrong == api.OK {
		l.wrong = l.to.Close()
	}
}

// filter: of one that may be.
func (l *layer) filter(f api.Filter) {
	switch f.Kind {
	case api.FAnd:
		l.kids(tagAnd, f)
	case api.FOr:
		l.kids(tagOr, f)
	case api.FNot:
		l.kids(tagNot, f)
	case api.FEqual:
		l.against(tagEqual, f)
	case api.FMore:
		l.against(tagMore, f)
	case api.FLess:
		l.against(tagLess, f)
	case api.FLike:
		l.against(tagLike, f)
	case api.FHave:
		l.text(tagHave, f.Desc)
	case api.FPart:
		l.part(f)
	case api.FRule:
		l.rule(f)
	}
}

func (l *layer) kids(tag byte, f api.Filter) {
	l.around(tag, func() {
		for _, kid := range f.Kids {
			l.filter(kid)
		}
	})
}

func (l *layer) against(tag byte, f api.Filter) {
	l.around(tag, func() {
		l.text(tagText, f.Desc)
		l.text(tagText, f.Value)
	})
}

func (l *layer) part(f api.Filter) {
	l.around(tagPart, func() {
		l.text(tagText, f.Desc)
		l.around(tagPieces, func() {
			l.some(tagStart, f.Start)
			for _, middle := range f.Middles {
				l.text(tagMiddle, middle)
			}
			l.some(tagEnd, f.End)
		})
	})
}

func (l *layer) rule(f api.Filter) {
	l.around(tagRule, func() {
		l.some(tagRuleWord, f.Rule)
		l.some(tagRuleDesc, f.Desc)
		l.text(tagRuleValue, f.Value)
		if f.Dn {
			l.flag(tagRuleDn, true)
		}
	})
}

// some lays a text that is left out where it is empty.
func (l *layer) some(tag byte, s string) {
	if s != "" {
		l.text(tag, s)
	}
}
