package ber_test

import (
	"bytes"
	"math/rand"
	"slices"
	"testing"

	"roster/api"
	"roster/ber"
)

// itemsBy reads items by headBy as far as there is no error, with their places.
func itemsBy(b []byte, from, to int) (ats []int, items []api.Tlv, e api.Errno) {
	if from < 0 || to < from || len(b) < to {
		return nil, nil, api.ErrArg
	}
	for from < to {
		item, e := headBy(b, from, to)
		if e != api.OK {
			return ats, items, e
		}
		ats, items = append(ats, from), append(items, item)
		from = item.To
	}
	return ats, items, api.OK
}

// told goes over an Each.
func told(walk func(func(int, api.Tlv) bool)) (ats []int, items []api.Tlv) {
	for at, item := range walk {
		ats, items = append(ats, at), append(items, item)
	}
	return ats, items
}

func checkWhole(t *testing.T, b []byte, from, to int) {
	t.Helper()
	before := bytes.Clone(b)
	ats, want, wantE := itemsBy(b, from, to)
	got, e := ber.Whole(b, from, to)
	if e != wantE || e == api.OK && !slices.Equal(got, want) || e != api.OK && len(got) != 0 {
		t.Errorf("Whole(% x, %d, %d) = %v, %d, want %v, %d", b, from, to, got, e, want, wantE)
	}
	toldAts, toldItems := told(ber.Each(b, from, to))
	if !slices.Equal(toldAts, ats) || !slices.Equal(toldItems, want) {
		t.Errorf("Each(% x, %d, %d) tells %v, %v, want %v, %v", b, from, to, toldAts, toldItems, ats, want)
	}
	if !bytes.Equal(b, before) {
		t.Errorf("% x was written into", before)
	}
}

func TestWholeExamples(t *testing.T) {
	b := raw("01 01 FF 02 01 05")
	two := []api.Tlv{{Number: 1, From: 2, To: 3}, {Number: 2, From: 5, To: 6}}
	if l, e := ber.Whole(b, 0, 6); !slices.Equal(l, two) || e != api.OK {
		t.Errorf("Whole = %v, %d", l, e)
	}
	if l, e := ber.Whole(b, 0, 5); len(l) != 0 || e != api.ErrShort {
		t.Errorf("Whole = %v, %d", l, e)
	}
	if l, e := ber.Whole(nil, 0, 0); len(l) != 0 || e != api.OK {
		t.Errorf("Whole = %v, %d", l, e)
	}
}

// The end is to's, for the last item too: what stands behind it is not seen.
func TestWholeBetweenItsPlaces(t *testing.T) {
	for _, s := range []string{"", "04 00", "04 00 04 00 1F", "FF 04 02 68 69 30 81 02 05 00 80", "01 01 FF 02 01 05", "30 03 04 01 78 24 00"} {
		b := raw(s)
		for _, from := range places(len(b)) {
			for _, to := range places(len(b)) {
				checkWhole(t, b, from, to)
			}
		}
	}
}

func TestWholeTellsTheFirstError(t *testing.T) {
	wrong := []struct {
		bytes string
		want  api.Errno
	}{{"1F 00", api.ErrTag}, {"04 80", api.ErrForm}, {"04 FF", api.ErrForm}, {"BF", api.ErrTag}}
	for _, good := range []string{"", "04 00", "04 01 78", "30 81 02 1F 80", "30 00 A1 00"} {
		for _, first := range wrong {
			for _, second := range []string{"", "1F 00", "04 80", "04 00", "04 7F", "04"} {
				b := raw(good + first.bytes + second)
				if l, e := ber.Whole(b, 0, len(b)); len(l) != 0 || e != first.want {
					t.Errorf("Whole(% x) = %v, %d", b, l, e)
				}
				checkWhole(t, b, 0, len(b))
			}
		}
		for _, short := range []string{"04", "04 01", "04 81", "04 82 00", "30 05 1F 80"} {
			b := raw(good + short)
			if l, e := ber.Whole(b, 0, len(b)); len(l) != 0 || e != api.ErrShort {
				t.Errorf("Whole(% x) = %v, %d", b, l, e)
			}
			checkWhole(t, b, 0, len(b))
		}
	}
}

// What is in a body is not looked at, as long as nobody asks for it.
func TestWholeLeavesBodiesAlone(t *testing.T) {
	b := raw("30 03 1F 80 FF 04 02 80 80")
	want := []api.Tlv{{Cons: true, Number: 16, From: 2, To: 5}, {Number: 4, From: 7, To: 9}}
	if l, e := ber.Whole(b, 0, len(b)); !slices.Equal(l, want) || e != api.OK {
		t.Errorf("Whole = %v, %d", l, e)
	}
}

func TestWholeOfAllShortRows(t *testing.T) {
	for n := range 5 {
		rowsOf(n, func(b []byte) {
			checkWhole(t, b, 0, len(b))
			if n < 4 {
				checkWhole(t, append(raw("FF 04 00"), b...), 1, 3+n)
			}
		})
	}
}

func TestWholeOfManyRows(t *testing.T) {
	chance := rand.New(rand.NewSource(2))
	for range 3000 {
		b := make([]byte, chance.Intn(40))
		for k := range b {
			b[k] = telling[chance.Intn(len(telling))]
			if chance.Intn(2) == 0 {
				b[k] = byte(chance.Intn(6))
			}
		}
		from := chance.Intn(len(b) + 1)
		checkWhole(t, b, from, from+chance.Intn(len(b)-from+1))
	}
}

func TestWholeOfManyItems(t *testing.T) {
	b := bytes.Repeat(raw("04 00 05 01 78"), 50000)
	l, e := ber.Whole(b, 0, len(b))
	if len(l) != 100000 || e != api.OK || l[99999] != (api.Tlv{Number: 5, From: len(b) - 1, To: len(b)}) {
		t.Errorf("%d items, %d", len(l), e)
	}
	if ats, _ := told(ber.Each(b, 0, len(b))); len(ats) != 100000 || ats[99999] != len(b)-3 {
		t.Errorf("%d items are told", len(ats))
	}
}

func TestEachGoesAsFarAsThereIsNoError(t *testing.T) {
	b := raw("04 01 78 A3 00 1F 00 04 00")
	ats, items := told(ber.Each(b, 0, len(b)))
	if !slices.Equal(ats, []int{0, 3}) || !slices.Equal(items, []api.Tlv{{Number: 4, From: 2, To: 3}, {Class: 2, Cons: true, Number: 3, From: 5, To: 5}}) {
		t.Errorf("Each tells %v, %v", ats, items)
	}
}

func TestEachIsNeverNil(t *testing.T) {
	for _, from := range places(2) {
		for _, to := range places(2) {
			for _, b := range [][]byte{nil, {}, {4, 0}} {
				walk := ber.Each(b, from, to)
				if walk == nil {
					t.Fatalf("Each(% x, %d, %d) is nil", b, from, to)
				}
				if ats, _ := told(walk); len(ats) != 0 && (from != 0 || to != 2 || len(b) != 2) {
					t.Errorf("Each(% x, %d, %d) tells %v", b, from, to, ats)
				}
			}
		}
	}
}

// It goes over what was there at the call, though the bytes are others when it is gone over.
func TestEachGoesOverWhatWasThere(t *testing.T) {
	b := raw("04 01 78 05 00 06 02 68 69")
	ats, items, _ := itemsBy(b, 0, len(b))
	walk := ber.Each(b, 0, len(b))
	for _, o := range []byte{0x1f, 0x00, 0xff} {
		for k := range b {
			b[k] = o
		}
		gotAts, got := told(walk)
		if !slices.Equal(gotAts, ats) || !slices.Equal(got, items) {
			t.Errorf("over %02x: %v, %v", o, gotAts, got)
		}
	}
	broken := raw("04 80 04 00")
	walk = ber.Each(broken, 0, 4)
	broken[1] = 0
	if ats, _ := told(walk); len(ats) != 0 {
		t.Errorf("mended behind the call: %v", ats)
	}
}

func TestEachMayBeLeftAndGoneOverAgain(t *testing.T) {
	b := raw("04 00 05 00 06 00")
	walk := ber.Each(b, 0, 6)
	for stop := range 4 {
		var seen []int
		for at := range walk {
			if len(seen) == stop {
				break
			}
			seen = append(seen, at)
		}
		if !slices.Equal(seen, []int{0, 2, 4}[:stop]) {
			t.Errorf("left behind %d: %v", stop, seen)
		}
	}
	for outer, x := range walk {
		ats, _ := told(walk)
		if !slices.Equal(ats, []int{0, 2, 4}) || x.To != outer+2 {
			t.Errorf("within another walk: %v at %d", ats, outer)
		}
	}
}

func TestWholeAnswersNewMemory(t *testing.T) {
	b := raw("04 00 05 00 06 00")
	first, _ := ber.Whole(b, 0, 6)
	walk := ber.Each(b, 0, 6)
	second, _ := ber.Whole(b, 0, 6)
	want := slices.Clone(second)
	all := first[:cap(first)]
	for k := range all {
		all[k] = api.Tlv{Number: 99}
	}
	if _, items := told(walk); !slices.Equal(second, want) || !slices.Equal(items, want) {
		t.Errorf("%v, %v", second, items)
	}
	if third, e := ber.Whole(b, 0, 6); !slices.Equal(third, want) || e != api.OK {
		t.Errorf("%v, %d", third, e)
	}
}
