package code

import (
	"math"

	"roster/api"
)

// Numbers are written in groups of seven bits; the bit goesOn is set in each but the last.
const (
	goesOn    = 0x80
	groupBits = 7
	maxGroups = 5
)

// fault is what cannot stand at a place among the bytes. It ends the whole reading by a panic, which Decode catches.
type fault struct {
	code api.Errno
	at   int
}

// cursor reads bytes, numbers and texts one behind the other.
type cursor struct {
	bytes []byte
	at    int // of what is not read yet
}

func (c *cursor) left() int { return len(c.bytes) - c.at }

// take is the next so many bytes, where they stand.
func (c *cursor) take(many int) []byte {
	if many > c.left() {
		panic(fault{api.ErrShort, len(c.bytes)})
	}
	c.at += many
	return c.bytes[c.at-many : c.at]
}

func (c *cursor) next() byte { return c.take(1)[0] }

// just is for a byte that must stand there.
func (c *cursor) just(want byte) {
	at := c.at
	if c.next() != want {
		panic(fault{api.ErrCode, at})
	}
}

// below reads a byte that is one of so many, counted from 0 on.
func (c *cursor) below(many int) byte {
	at := c.at
	b := c.next()
	if int(b) >= many {
		panic(fault{api.ErrCode, at})
	}
	return b
}

func (c *cursor) number() int {
	at := c.at
	n, isShortest := c.groups()
	if !isShortest || n > math.MaxInt32 {
		panic(fault{api.ErrCode, at})
	}
	return int(n)
}

// groups reads those of a number, and tells whether they are as few as can be, and not too many.
func (c *cursor) groups() (n uint64, isShortest bool) {
	for group := range maxGroups {
		b := c.next()
		n |= uint64(b%goesOn) << (groupBits * group)
		if b < goesOn {
			return n, b > 0 || group == 0
		}
	}
	return 0, false
}

func (c *cursor) text() string { return string(c.take(c.number())) }

// texts: how many there are is not believed till they are read.
func (c *cursor) texts() []string {
	var out []string
	for range c.number() {
		out = append(out, c.text())
	}
	return out
}

func (c *cursor) flag() bool { return c.below(2) == 1 }

func (c *cursor) end() {
	if c.left() > 0 {
		panic(fault{api.ErrMore, c.at})
	}
}

// reader reads a program. Whether it may be is not looked at.
type reader struct{ cursor }

func (r *reader) program() api.Program {
	for i := range len(head) {
		r.just(head[i])
	}
	var p api.Program
	for range r.number() {
		p.Consts = append(p.Consts, r.constant())
	}
	for range r.number() {
		p.Code = append(p.Code, r.instr())
	}
	r.end()
	return p
}

func (r *reader) constant() api.Const {
	if r.below(aheadOfTest+1) == aheadOfTest {
		return api.Const{Test: true, Filter: r.filter(0)}
	}
	return api.Const{Fetch: r.fetch()}
}

func (r *reader) fetch() api.Fetch {
	q := api.Fetch{Kind: int8(r.below(api.GetPart + 1))}
	q.Type = r.number()
	q.Key = r.text()
	q.Pieces = r.texts()
	return q
}

// filter reads a part that so many others stand above.
func (r *reader) filter(above int) api.Filter {
	at := r.at
	f := api.Filter{Kind: int8(r.below(api.FRule + 1))}
	if above >= api.MaxDepth {
		panic(fault{api.ErrCode, at})
	}
	switch f.Kind {
	case api.FAnd, api.FOr:
		f.Kids = r.kids(r.number(), above+1)
	case api.FNot:
		f.Kids = r.kids(1, above+1)
	case api.FEqual, api.FMore, api.FLess, api.FLike:
		f.Desc = r.text()
		f.Value = r.text()
	case api.FHave:
		f.Desc = r.text()
	case api.FPart:
		f.Desc = r.text()
		f.Start = r.text()
		f.Middles = r.texts()
		f.End = r.text()
	case api.FRule:
		f.Desc = r.text()
		f.Rule = r.text()
		f.Value = r.text()
		f.Dn = r.flag()
	}
	return f
}

func (r *reader) kids(many, above int) []api.Filter {
	var out []api.Filter
	for range many {
		out = append(out, r.filter(above))
	}
	return out
}

func (r *reader) instr() api.Instr {
	i := api.Instr{Op: r.below(len(opcodes))}
	if opcodes[i.Op].names {
		i.Arg = r.number()
	}
	return i
}
