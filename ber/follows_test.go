package ber_test

import (
	"math/rand"
	"slices"
	"testing"

	"roster/api"
	"roster/ber"
)

// thing is an item as it is laid: made of others, a number, a flag or a text.
type thing struct {
	class  int8
	number int
	kind   int
	kids   []thing
	v      int64
	flag   bool
	text   string
}

const (
	kindMade = iota
	kindInt
	kindFlag
	kindText
)

func someThings(chance *rand.Rand, deep int) []thing {
	out := make([]thing, chance.Intn(6))
	for k := range out {
		x := thing{class: int8(chance.Intn(4)), number: chance.Intn(31), kind: chance.Intn(4)}
		switch {
		case x.kind == kindMade && deep > 0:
			x.kids = someThings(chance, deep-1)
		case x.kind == kindInt:
			x.v = int64(chance.Uint64()) >> chance.Intn(64)
		case x.kind == kindFlag:
			x.flag = chance.Intn(2) == 0
		case x.kind == kindText:
			b := make([]byte, []int{0, 1, 5, 120, 127, 128, 255, 256, 300}[chance.Intn(9)])
			chance.Read(b)
			x.text = string(b)
		}
		out[k] = x
	}
	return out
}

func lay(t *testing.T, w *ber.Writer, things []thing) {
	t.Helper()
	for _, x := range things {
		e := api.OK
		switch x.kind {
		case kindMade:
			e = w.Open(x.class, x.number)
			lay(t, w, x.kids)
			e = max(e, w.Close())
		case kindInt:
			e = w.Int(x.class, x.number, x.v)
		case kindFlag:
			e = w.Flag(x.class, x.number, x.flag)
		case kindText:
			e = w.Text(x.class, x.number, x.text)
		}
		if e != api.OK {
			t.Fatalf("%v: %d", x, e)
		}
	}
}

func checkThings(t *testing.T, b []byte, from, to int, things []thing) {
	t.Helper()
	items, e := ber.Whole(b, from, to)
	if e != api.OK || len(items) != len(things) {
		t.Fatalf("%d items, %d, want %d", len(items), e, len(things))
	}
	for k, item := range items {
		x := things[k]
		if item.Class != x.class || item.Number != x.number || item.Cons != (x.kind == kindMade) {
			t.Errorf("%v is read as %v", x, item)
		}
		switch x.kind {
		case kindMade:
			checkThings(t, b, item.From, item.To, x.kids)
		case kindInt:
			if v, e := ber.Int(b, item); v != x.v || e != api.OK {
				t.Errorf("%d is read as %d, %d", x.v, v, e)
			}
		case kindFlag:
			if v, e := ber.Flag(b, item); v != x.flag || e != api.OK {
				t.Errorf("%v is read as %v, %d", x.flag, v, e)
			}
		case kindText:
			if s, e := ber.Text(b, item); s != x.text || e != api.OK {
				t.Errorf("%q is read as %q, %d", x.text, s, e)
			}
		}
	}
}

func TestThereAndBack(t *testing.T) {
	chance := rand.New(rand.NewSource(5))
	for range 2000 {
		w := ber.New()
		var things []thing
		for range 3 { // the writer goes on behind its Bytes
			more := someThings(chance, 5)
			lay(t, w, more)
			things = append(things, more...)
			b := taken(t, w)
			checkThings(t, b, 0, len(b), things)
		}
	}
}

func TestThereAndBackAtTheGreatestDepth(t *testing.T) {
	things := []thing{{kind: kindInt, v: -1}}
	for k := range api.MaxDepth + 16 {
		things = []thing{{kind: kindText, text: "ahead"}, {class: int8(k % 4), number: k % 31, kind: kindMade, kids: things}, {kind: kindFlag}}
	}
	w := ber.New()
	lay(t, w, things)
	b := taken(t, w)
	checkThings(t, b, 0, len(b), things)
}

// A Whole that is answered goes from from to to without a gap, and an Each of the same tells its items.
func TestItemsLieSideBySide(t *testing.T) {
	wholes := 0
	check := func(b []byte, from, to int) {
		items, e := ber.Whole(b, from, to)
		if e != api.OK {
			return
		}
		wholes++
		at := from
		var ats []int
		for _, item := range items {
			ats = append(ats, at)
			if head, e := ber.Head(b, at, to); head != item || e != api.OK {
				t.Errorf("% x: at %d stands %v, %d, not %v", b, at, head, e, item)
			}
			if item.From < at+2 || item.To < item.From {
				t.Errorf("% x: %v begins at %d", b, item, at)
			}
			at = item.To
		}
		if at != to {
			t.Errorf("% x: the last body ends at %d, not at %d", b, at, to)
		}
		if toldAts, toldItems := told(ber.Each(b, from, to)); !slices.Equal(toldAts, ats) || !slices.Equal(toldItems, items) {
			t.Errorf("% x: Each tells %v, %v", b, toldAts, toldItems)
		}
	}
	for n := range 5 {
		rowsOf(n, func(b []byte) {
			for from := range n + 1 {
				check(b, from, n)
			}
		})
	}
	chance := rand.New(rand.NewSource(6))
	for range 300 {
		w := ber.New()
		lay(t, w, someThings(chance, 3))
		b := taken(t, w)
		check(b, 0, len(b))
		items, _ := ber.Whole(b, 0, len(b))
		for _, item := range items {
			check(b, item.From, item.To)
		}
	}
	if wholes < 1000 {
		t.Errorf("only %d rows were whole", wholes)
	}
}

// What is asked a second time, with other calls between, is answered as at first.
func TestAnswersHangOnArgumentsAlone(t *testing.T) {
	type answer struct {
		head api.Tlv
		e    api.Errno
		n    int
		v    int64
	}
	ask := func(b []byte) answer {
		head, e := ber.Head(b, 0, len(b))
		items, _ := ber.Whole(b, 0, len(b))
		v, _ := ber.Int(b, head)
		return answer{head, e, len(items), v}
	}
	var rows [][]byte
	var first []answer
	rowsOf(3, func(b []byte) {
		rows = append(rows, b)
		first = append(first, ask(b))
	})
	for k := len(rows) - 1; k >= 0; k-- {
		if ask(rows[k]) != first[k] {
			t.Errorf("% x is answered otherwise the second time", rows[k])
		}
	}
}
