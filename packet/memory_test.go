package packet_test

import (
	"bytes"
	"fmt"
	"sync"
	"testing"

	"roster/api"
	"roster/ber"
	"roster/packet"
)

// spoil writes over all of a filter's lists, the room behind their ends too.
func spoil(f api.Filter) {
	for _, kid := range f.Kids {
		spoil(kid)
	}
	kids, middles := f.Kids[:cap(f.Kids)], f.Middles[:cap(f.Middles)]
	for i := range kids {
		kids[i] = api.Filter{Kind: 77, Desc: "spoilt"}
	}
	for i := range middles {
		middles[i] = "spoilt"
	}
}

// whole shows a filter with the room behind the ends of its lists.
func whole(f api.Filter) string {
	out := fmt.Sprintf("%d %q %q %q %q %q %d of %q", f.Kind, f.Desc, f.Value, f.Start, f.End, f.Rule, len(f.Middles), f.Middles[:cap(f.Middles)])
	for _, kid := range f.Kids[:cap(f.Kids)] {
		out += fmt.Sprintf(" %d(%s)", len(f.Kids), whole(kid))
	}
	return out
}

func roomy() api.Filter {
	mark := api.Filter{Kind: 88, Desc: "mark"}
	room := func(kids ...api.Filter) []api.Filter { return append(kids, mark, mark)[:len(kids)] }
	piece := api.Filter{Kind: api.FPart, Desc: "cn", Middles: append([]string{"a", "b"}, "mark", "mark")[:2]}
	empty := equal("CN;x", "A")
	empty.Kids, empty.Middles = room(), append([]string{}, "mark")[:0]
	return api.Filter{Kind: api.FAnd, Kids: room(api.Filter{Kind: api.FNot, Kids: room(piece)}, empty, piece)}
}

// R3: what is handed to Encode and Put is not changed, nor is the room behind its ends; lists without anything count as none (R6).
func TestEncodeChangesNothing(t *testing.T) {
	f := roomy()
	checkEncode(t, f, modelEncode(f))
	if e := packet.Put(ber.New(), f); e != api.OK {
		t.Errorf("%v", e)
	}
	if got, want := whole(f), whole(roomy()); got != want {
		t.Errorf("%s; want %s", got, want)
	}
}

// R3: what is handed to Decode and Take is not changed, kept or looked at behind its end.
func TestDecodeKeepsNothing(t *testing.T) {
	b := modelEncode(roomy())
	want, _ := modelDecode(b)
	room := append(bytes.Clone(b), 0x87, 0x01, 0x61)[:len(b)]
	f, e, _ := packet.Decode(room)
	g, next, _, _ := packet.Take(room, 0, len(b))
	if e != api.OK || next != len(b) || !bytes.Equal(room[:len(b)+3], append(bytes.Clone(b), 0x87, 0x01, 0x61)) {
		t.Fatalf("%v, %d, % x", e, next, room[:len(b)+3])
	}
	clear(room[:cap(room)])
	if !isSame(f, want) || !isSame(g, want) {
		t.Errorf("%s, %s; want %s", shown(f), shown(g), shown(want))
	}
	for size := range len(b) {
		checkWrong(t, bytes.Clone(b)[:size], api.ErrShort, 0)
	}
}

// R3: what Decode hands out is new; no two of its lists share memory, in the room behind their ends neither.
func TestDecodeSharesNothing(t *testing.T) {
	x := part("a", "x", "", "y", "z", "w")
	f := and(x, or(x, not(x), equal("b", "c")), not(part("a", "", "", "x", "y")), x, x)
	b := modelEncode(f)
	first, e, _ := packet.Decode(b)
	if e != api.OK {
		t.Fatal(e)
	}
	for at := range first.Kids {
		got, _, _ := packet.Decode(b)
		spoil(got.Kids[at])
		for i, kid := range got.Kids {
			if i != at && !isSame(kid, f.Kids[i]) {
				t.Errorf("kid %d is %s after kid %d was spoilt", i, shown(kid), at)
			}
		}
		_ = append(got.Kids, have("x"))
		_ = append(got.Kids[1].Kids, have("x"))
	}
	spoil(first)
	checkTaken(t, b, f)
}

// R3: what Encode hands out is new each time.
func TestEncodeSharesNothing(t *testing.T) {
	f := roomy()
	b, _ := packet.Encode(f)
	clear(b[:cap(b)])
	checkEncode(t, f, modelEncode(f))
	if got, want := whole(f), whole(roomy()); got != want {
		t.Errorf("%s; want %s", got, want)
	}
}

// R2: nothing is left behind, and all of it may be done at the same time.
func TestGoroutines(t *testing.T) {
	d := diceOf(13)
	var filters []api.Filter
	var packets [][]byte
	for range 200 {
		f := d.filter(4)
		filters, packets = append(filters, f), append(packets, modelEncode(f))
	}
	var all sync.WaitGroup
	for range 8 {
		all.Go(func() {
			for i, f := range filters {
				checkTaken(t, packets[i], f)
				checkEncode(t, f, packets[i])
				checkWrong(t, append(bytes.Clone(packets[i]), 0), api.ErrMore, len(packets[i]))
				checkWrong(t, made(0xa2, packets[i], packets[i]), api.ErrMore, len(made(0xa2, packets[i], packets[i]))-len(packets[i]))
			}
		})
	}
	all.Wait()
}
