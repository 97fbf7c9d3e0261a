package code

import "roster/api"

// head is how a program's bytes begin: two letters and the version.
const head = "RP\x01"

// What stands ahead of a constant.
const (
	aheadOfFetch = iota
	aheadOfTest
)

// pen writes bytes, numbers and texts. What would go beyond MaxBytes it leaves out, and notes that it did.
type pen struct {
	out    []byte
	isLong bool
}

func (w *pen) putAll(s string) {
	if len(s) > api.MaxBytes-len(w.out) {
		w.isLong = true
		return
	}
	w.out = append(w.out, s...)
}

func (w *pen) put(b byte) {
	if len(w.out) == api.MaxBytes {
		w.isLong = true
		return
	}
	w.out = append(w.out, b)
}

func (w *pen) number(n int) {
	for ; n >= goesOn; n >>= groupBits {
		w.put(byte(n%goesOn) | goesOn)
	}
	w.put(byte(n))
}

func (w *pen) text(s string) {
	w.number(len(s))
	w.putAll(s)
}

func (w *pen) texts(list []string) {
	w.number(len(list))
	for _, s := range list {
		w.text(s)
	}
}

func (w *pen) flag(v bool) {
	if v {
		w.put(1)
		return
	}
	w.put(0)
}

// writer writes a program that may be.
type writer struct{ pen }

func (w *writer) program(p api.Program) {
	w.putAll(head)
	w.number(len(p.Consts))
	for _, c := range p.Consts {
		w.constant(constantOf(c))
	}
	w.number(len(p.Code))
	for _, i := range p.Code {
		w.instr(i)
	}
}

func (w *writer) constant(c constant) {
	switch x := c.(type) {
	case fetch:
		w.put(aheadOfFetch)
		w.put(byte(x.Kind))
		w.number(x.Type)
		w.text(x.Key)
		w.texts(x.Pieces)
	case test:
		w.put(aheadOfTest)
		w.filter(x.Filter)
	}
}

func (w *writer) filter(f api.Filter) {
	w.put(byte(f.Kind))
	switch f.Kind {
	case api.FAnd, api.FOr:
		w.number(len(f.Kids))
		fallthrough
	case api.FNot:
		for _, kid := range f.Kids {
			w.filter(kid)
		}
	case api.FEqual, api.FMore, api.FLess, api.FLike:
		w.text(f.Desc)
		w.text(f.Value)
	case api.FHave:
		w.text(f.Desc)
	case api.FPart:
		w.text(f.Desc)
		w.text(f.Start)
		w.texts(f.Middles)
		w.text(f.End)
	case api.FRule:
		w.text(f.Desc)
		w.text(f.Rule)
		w.text(f.Value)
		w.flag(f.Dn)
	}
}

func (w *writer) instr(i api.Instr) {
	w.put(i.Op)
	if opcodes[i.Op].names {
		w.number(i.Arg)
	}
}
