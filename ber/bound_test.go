package ber_test

import (
	"bytes"
	"strings"
	"testing"

	"roster/api"
	"roster/ber"
)

const bound = 1 << 26

// octetsOf tells in how many octets a length is written.
func octetsOf(length int) int {
	switch {
	case length < 1<<7:
		return 1
	case length < 1<<8:
		return 2
	case length < 1<<16:
		return 3
	case length < 1<<24:
		return 4
	}
	return 5
}

// size is an item's with a body of that many bytes.
func size(body int) int { return 1 + octetsOf(body) + body }

// sizes is a model of a writer that knows only how many bytes stand in each body that is open; the first one is no item's but the whole.
type sizes []int

func (s sizes) whole(more int) int {
	for k := len(s) - 1; k > 0; k-- {
		more = size(s[k] + more)
	}
	return s[0] + more
}

// lay answers the error of laying an item of that many bytes, and lays it if there is none.
func (s sizes) lay(item int) api.Errno {
	if s.whole(item) > bound {
		return api.ErrLong
	}
	s[len(s)-1] += item
	return api.OK
}

func TestDepthOfWhatIsOpen(t *testing.T) {
	const most = api.MaxDepth + 16
	w := ber.New()
	for k := range most {
		if e := w.Open(2, 1); e != api.OK {
			t.Fatalf("open %d: %d", k, e)
		}
	}
	for range 2 {
		steps(t, "at the bottom", []api.Errno{w.Open(2, 1), w.Open(0, 31), w.Open(-1, 0)}, api.ErrDeep, api.ErrArg, api.ErrArg)
	}
	steps(t, "items at the bottom", []api.Errno{w.Int(0, 2, 1), w.Flag(0, 1, true), w.Text(0, 4, "x")}, api.OK, api.OK, api.OK)
	steps(t, "one closed", []api.Errno{w.Close(), w.Open(0, 16), w.Open(0, 16), w.Close()}, api.OK, api.OK, api.ErrDeep, api.OK)
	for range most - 1 {
		steps(t, "close", []api.Errno{w.Close()}, api.OK)
	}
	want := append(raw("A1 09 02 01 01 01 01 FF 04 01 78"), raw("30 00")...)
	for range most - 1 {
		want = append(append([]byte{0xa1}, lengthBy(len(want))...), want...)
	}
	if b := taken(t, w); !bytes.Equal(b, want) {
		t.Errorf("% x", b)
	}
}

func lengthBy(n int) []byte {
	if n < 128 {
		return []byte{byte(n)}
	}
	if n < 256 {
		return []byte{0x81, byte(n)}
	}
	return []byte{0x82, byte(n >> 8), byte(n)}
}

func TestBoundOfOneText(t *testing.T) {
	s := strings.Repeat("x", bound)
	for _, n := range []int{bound, bound - 1, bound - 5} {
		steps(t, "too long", []api.Errno{ber.New().Text(0, 4, s[:n])}, api.ErrLong)
	}
	w := ber.New()
	steps(t, "at the bound", []api.Errno{w.Text(0, 4, s[:bound-5]), w.Text(0, 4, s[:bound-6])}, api.ErrLong, api.OK)
	steps(t, "no room left", []api.Errno{w.Text(0, 4, ""), w.Int(0, 2, 0), w.Flag(0, 1, true), w.Open(0, 16), w.Close(), w.Int(0, 31, 0), w.Open(4, 0)},
		api.ErrLong, api.ErrLong, api.ErrLong, api.ErrLong, api.ErrArg, api.ErrArg, api.ErrArg)
	if b := taken(t, w); len(b) != bound || !bytes.Equal(b[:7], raw("04 84 03 FF FF FA 78")) {
		t.Errorf("%d bytes, % x", len(b), b[:7])
	}
}

// Where the next open one would not fit and is too deep, too, the depth counts.
func TestDepthCountsAheadOfTheBound(t *testing.T) {
	w := ber.New()
	model := sizes{0}
	for range api.MaxDepth + 16 {
		w.Open(0, 16)
		model = append(model, 0)
	}
	room := bound
	for model.whole(size(room)) > bound {
		room--
	}
	s := strings.Repeat("x", room+1)
	steps(t, "at the bound", []api.Errno{w.Text(0, 4, s), w.Text(0, 4, s[1:]), w.Open(0, 16), w.Text(0, 4, ""), w.Open(0, 31)},
		api.ErrLong, api.OK, api.ErrDeep, api.ErrLong, api.ErrArg)
}

// All that is open counts with the lengths that it would have: with d open ones around it a text fits just up to the model's room.
func TestBoundWithManyOpen(t *testing.T) {
	s := strings.Repeat("x", bound)
	for _, deep := range []int{1, 2, 3, 40, 80} {
		w := ber.New()
		model := sizes{0}
		for range deep {
			w.Open(0, 16)
			model = append(model, 0)
		}
		room := bound
		for model.whole(size(room)) > bound {
			room--
		}
		steps(t, "around the room", []api.Errno{w.Text(0, 4, s[:room+1]), w.Text(0, 4, s[:room]), w.Text(0, 4, "")}, api.ErrLong, api.OK, api.ErrLong)
		for range deep {
			steps(t, "close", []api.Errno{w.Close()}, api.OK)
		}
		steps(t, "all closed", []api.Errno{w.Text(0, 4, "")}, api.ErrLong)
		if b := taken(t, w); len(b) != bound {
			t.Errorf("%d open: %d bytes", deep, len(b))
		}
	}
}

// Near the bound, small items make the lengths around them go from one octet to two, and from two to three.
func TestBoundWhereLengthsGrow(t *testing.T) {
	s := strings.Repeat("x", bound)
	for _, free := range []int{0, 1, 2, 3, 4, 5, 100, 126, 127, 128, 129, 130, 131, 132, 133, 134, 135, 136, 140, 255, 256, 257, 258, 259, 260, 261, 262, 263, 264, 265, 300, 400} {
		w := ber.New()
		model := sizes{0}
		first := bound - free - 6
		steps(t, "the first text", []api.Errno{w.Text(0, 4, s[:first])}, model.lay(size(first)))
		for k := range 6 {
			steps(t, "open", []api.Errno{w.Open(0, 16)}, opened(&model))
			checkRow(t, w, model, s, k%3)
		}
		checkRow(t, w, model, s, 400)
		for len(model) > 1 {
			steps(t, "close", []api.Errno{w.Close()}, closedOne(&model))
			steps(t, "flag", []api.Errno{w.Flag(0, 1, true)}, model.lay(3))
		}
		if b := taken(t, w); len(b) != model[0] || len(b) > bound {
			t.Errorf("%d free: %d bytes, want %d", free, len(b), model[0])
		}
	}
}

func opened(model *sizes) api.Errno {
	if model.whole(2) > bound {
		return api.ErrLong
	}
	*model = append(*model, 0)
	return api.OK
}

func closedOne(model *sizes) api.Errno {
	last := len(*model) - 1
	item := size((*model)[last])
	*model = (*model)[:last]
	(*model)[last-1] += item
	return api.OK
}

// checkRow lays small items: n of them, each in the three ways.
func checkRow(t *testing.T, w *ber.Writer, model sizes, s string, n int) {
	t.Helper()
	for k := range n {
		long := k % 5 * 30
		steps(t, "text", []api.Errno{w.Text(0, 4, s[:long])}, model.lay(size(long)))
		steps(t, "int", []api.Errno{w.Int(0, 2, 1<<(k%60))}, model.lay(size(k%60/8+1+intPad(k%60))))
		steps(t, "flag", []api.Errno{w.Flag(0, 1, k%2 == 0)}, model.lay(size(1)))
	}
}

// intPad is the octet that 2 to such a power needs for its sign.
func intPad(power int) int {
	if power%8 == 7 {
		return 1
	}
	return 0
}
