package ber_test

import (
	"bytes"
	"encoding/asn1"
	"math"
	"slices"
	"strings"
	"testing"

	"roster/api"
	"roster/ber"
)

// taken is the bytes that a writer answers without an error.
func taken(t *testing.T, w *ber.Writer) []byte {
	t.Helper()
	b, e := w.Bytes()
	if e != api.OK {
		t.Fatalf("Bytes: %d", e)
	}
	return b
}

// steps checks the errors that calls answered, one behind the other.
func steps(t *testing.T, what string, got []api.Errno, want ...api.Errno) {
	t.Helper()
	if !slices.Equal(got, want) {
		t.Errorf("%s: %v, want %v", what, got, want)
	}
}

func TestWriterExamples(t *testing.T) {
	w := ber.New()
	steps(t, "open, text", []api.Errno{w.Open(0, 16), w.Text(0, 4, "hi")}, api.OK, api.OK)
	if b, e := w.Bytes(); len(b) != 0 || e != api.ErrShort {
		t.Errorf("Bytes while open: % x, %d", b, e)
	}
	steps(t, "close", []api.Errno{w.Close()}, api.OK)
	if b := taken(t, w); !bytes.Equal(b, raw("30 04 04 02 68 69")) {
		t.Errorf("% x", b)
	}
	w = ber.New()
	steps(t, "ints", []api.Errno{w.Int(0, 2, 128), w.Int(0, 31, 0), w.Int(4, 2, 0), w.Close()}, api.OK, api.ErrArg, api.ErrArg, api.ErrArg)
	if b := taken(t, w); !bytes.Equal(b, raw("02 02 00 80")) {
		t.Errorf("% x", b)
	}
	w = ber.New()
	long := strings.Repeat("x", 128)
	steps(t, "text", []api.Errno{w.Text(0, 4, long)}, api.OK)
	if b := taken(t, w); !bytes.Equal(b, append(raw("04 81 80"), long...)) {
		t.Errorf("% x", b)
	}
}

// ways are the calls that begin an item or lay one, with what each lays behind the tag.
var ways = []struct {
	name string
	made byte
	body string
	do   func(w *ber.Writer, class int8, number int) api.Errno
}{
	{"Open", 0x20, "00", func(w *ber.Writer, class int8, number int) api.Errno {
		if e := w.Open(class, number); e != api.OK {
			return e
		}
		return w.Close()
	}},
	{"Int", 0, "01 05", func(w *ber.Writer, class int8, number int) api.Errno { return w.Int(class, number, 5) }},
	{"Flag", 0, "01 FF", func(w *ber.Writer, class int8, number int) api.Errno { return w.Flag(class, number, true) }},
	{"Flag", 0, "01 00", func(w *ber.Writer, class int8, number int) api.Errno { return w.Flag(class, number, false) }},
	{"Text", 0, "02 68 69", func(w *ber.Writer, class int8, number int) api.Errno { return w.Text(class, number, "hi") }},
	{"Text", 0, "00", func(w *ber.Writer, class int8, number int) api.Errno { return w.Text(class, number, "") }},
}

func TestTagsThatAreLaid(t *testing.T) {
	for _, way := range ways {
		for class := range int8(4) {
			for number := range 31 {
				w := ber.New()
				if e := way.do(w, class, number); e != api.OK {
					t.Errorf("%s(%d, %d): %d", way.name, class, number, e)
				}
				want := append([]byte{byte(class)*64 + way.made + byte(number)}, raw(way.body)...)
				if b := taken(t, w); !bytes.Equal(b, want) {
					t.Errorf("%s(%d, %d) lays % x", way.name, class, number, b)
				}
			}
		}
	}
}

func TestTagsThatAreRefused(t *testing.T) {
	for _, way := range ways {
		w := ber.New()
		w.Open(1, 1)
		w.Int(0, 2, 7)
		for _, class := range []int8{-128, -64, -4, -2, -1, 4, 5, 8, 64, 127} {
			for _, number := range []int{0, 4, 30, 31} {
				steps(t, way.name, []api.Errno{way.do(w, class, number)}, api.ErrArg)
			}
		}
		for _, number := range []int{math.MinInt, -256, -32, -1, 31, 32, 63, 256, 260, 1 << 32, math.MaxInt} {
			for class := range int8(4) {
				steps(t, way.name, []api.Errno{way.do(w, class, number)}, api.ErrArg)
			}
		}
		w.Close()
		if b := taken(t, w); !bytes.Equal(b, raw("61 03 02 01 07")) {
			t.Errorf("%s: what is refused changes nothing: % x", way.name, b)
		}
	}
}

func TestIntIsLaidInAsFewOctetsAsCanBe(t *testing.T) {
	check := func(v int64) {
		w := ber.New()
		if e := w.Int(0, 2, v); e != api.OK {
			t.Errorf("Int(%d): %d", v, e)
		}
		want, err := asn1.Marshal(v)
		if b := taken(t, w); err != nil || !bytes.Equal(b, want) {
			t.Errorf("Int(%d) lays % x, want % x", v, b, want)
		}
	}
	for v := int64(-70000); v <= 70000; v++ {
		check(v)
	}
	for shift := range 64 {
		for _, near := range []int64{-2, -1, 0, 1, 2} {
			check(1<<shift + near)
			check(-(1 << shift) + near)
		}
	}
	check(math.MaxInt64)
	check(math.MinInt64)
}

var lengths = []int{0, 1, 2, 126, 127, 128, 129, 254, 255, 256, 257, 1<<16 - 1, 1 << 16, 1<<16 + 1, 1<<24 - 1, 1 << 24}

func TestLengthsOfTexts(t *testing.T) {
	for _, n := range lengths {
		s := strings.Repeat("y", n)
		w := ber.New()
		steps(t, "text", []api.Errno{w.Text(0, 4, s)}, api.OK)
		want, _ := asn1.Marshal([]byte(s))
		if !bytes.Equal(taken(t, w), want) {
			t.Errorf("a text of %d bytes", n)
		}
	}
}

func TestLengthsOfWhatIsOpened(t *testing.T) {
	for _, n := range lengths[4:] {
		for less := range 7 {
			s := strings.Repeat("y", n-less)
			w := ber.New()
			steps(t, "open and text", []api.Errno{w.Flag(0, 1, true), w.Open(1, 30), w.Open(2, 9), w.Text(0, 4, s), w.Close(), w.Close(), w.Flag(0, 1, false)}, 0, 0, 0, 0, 0, 0, 0)
			inner, _ := asn1.Marshal([]byte(s))
			inner, _ = asn1.Marshal(asn1.RawValue{Class: 2, Tag: 9, IsCompound: true, Bytes: inner})
			inner, _ = asn1.Marshal(asn1.RawValue{Class: 1, Tag: 30, IsCompound: true, Bytes: inner})
			want := append(raw("01 01 FF"), inner...)
			want = append(want, raw("01 01 00")...)
			if !bytes.Equal(taken(t, w), want) {
				t.Errorf("a text of %d bytes in two others", n-less)
			}
		}
	}
}

func TestCloseEndsTheLastThatIsOpen(t *testing.T) {
	w := ber.New()
	steps(t, "close of nothing", []api.Errno{w.Close()}, api.ErrArg)
	steps(t, "nested", []api.Errno{w.Open(0, 1), w.Open(0, 2), w.Int(0, 9, 1), w.Close(), w.Int(0, 10, 2), w.Open(0, 3), w.Close(), w.Close(), w.Close(), w.Int(0, 11, 3), w.Close()},
		0, 0, 0, 0, 0, 0, 0, 0, api.ErrArg, 0, api.ErrArg)
	if b := taken(t, w); !bytes.Equal(b, raw("21 0A 22 03 09 01 01 0A 01 02 23 00 0B 01 03")) {
		t.Errorf("% x", b)
	}
}

func TestBytesOfAnEmptyWriter(t *testing.T) {
	if b, e := ber.New().Bytes(); len(b) != 0 || e != api.OK {
		t.Errorf("% x, %d", b, e)
	}
}

func TestBytesChangesNothing(t *testing.T) {
	w := ber.New()
	var whole []byte
	for k := range int64(300) {
		if b, e := w.Bytes(); !bytes.Equal(b, whole) || e != api.OK {
			t.Fatalf("behind %d: % x, %d", k, b, e)
		}
		w.Open(0, 16)
		w.Int(0, 2, k)
		if b, e := w.Bytes(); len(b) != 0 || e != api.ErrShort {
			t.Fatalf("while open: % x, %d", b, e)
		}
		w.Close()
		one, _ := asn1.Marshal([]int64{k})
		whole = append(whole, one...)
	}
}

func TestBytesAnswersNewMemory(t *testing.T) {
	w := ber.New()
	w.Text(0, 4, "hi")
	first := taken(t, w)
	second := taken(t, w)
	room := first[:cap(first)]
	for k := range room {
		room[k] = 0xee
	}
	w.Text(0, 4, "ho")
	third := taken(t, w)
	if !bytes.Equal(second, raw("04 02 68 69")) || !bytes.Equal(third, raw("04 02 68 69 04 02 68 6F")) {
		t.Errorf("% x, % x", second, third)
	}
	w.Text(0, 4, "hu")
	for k := range room {
		if room[k] != 0xee {
			t.Errorf("the writer wrote into what it had handed out: % x", room)
		}
	}
	if !bytes.Equal(third, raw("04 02 68 69 04 02 68 6F")) {
		t.Errorf("% x", third)
	}
}

func TestWritersDoNotMeet(t *testing.T) {
	a, b := ber.New(), ber.New()
	a.Open(0, 16)
	steps(t, "the other one", []api.Errno{b.Close(), b.Text(0, 4, "b")}, api.ErrArg, api.OK)
	a.Text(0, 4, "a")
	a.Close()
	if !bytes.Equal(taken(t, a), raw("30 03 04 01 61")) || !bytes.Equal(taken(t, b), raw("04 01 62")) {
		t.Errorf("% x, % x", taken(t, a), taken(t, b))
	}
}

func TestNoWriter(t *testing.T) {
	var w *ber.Writer
	for _, class := range []int8{-1, 0, 3, 4} {
		for _, number := range []int{-1, 0, 30, 31} {
			steps(t, "nil", []api.Errno{w.Open(class, number), w.Close(), w.Int(class, number, 1<<40), w.Flag(class, number, true), w.Text(class, number, "x")},
				api.ErrNil, api.ErrNil, api.ErrNil, api.ErrNil, api.ErrNil)
		}
	}
	if b, e := w.Bytes(); len(b) != 0 || e != api.ErrNil {
		t.Errorf("% x, %d", b, e)
	}
}
