package idlist_test

import (
	"bytes"
	"encoding/hex"
	"math/rand"
	"slices"
	"strings"
	"testing"

	"roster/api"
	"roster/idlist"
)

// raw reads bytes that are written in base 16, with blanks between.
func raw(s string) []byte {
	b, err := hex.DecodeString(strings.ReplaceAll(s, " ", ""))
	if err != nil {
		panic(err)
	}
	return b
}

const (
	topBytes  = "ff ff ff ff ff ff ff ff ff 01" // of 2^64 - 1
	highBytes = "80 80 80 80 80 80 80 80 80 01" // of 2^63
	nineBytes = "ff ff ff ff ff ff ff ff ff"    // what nine bytes can begin
)

func TestPackExamples(t *testing.T) {
	for _, x := range []struct {
		l []uint64
		b string
	}{
		{nil, "00"},
		{[]uint64{5, 6, 300}, "03 05 00 a5 02"},
		{[]uint64{top}, "01" + topBytes},
		{[]uint64{0}, "01 00"},
		{[]uint64{127}, "01 7f"},
		{[]uint64{128}, "01 80 01"},
		{[]uint64{1 << 63}, "01" + highBytes},
		{[]uint64{0, top}, "02 00 fe ff ff ff ff ff ff ff ff 01"},
		{[]uint64{top, 0, top, 0}, "02 00 fe ff ff ff ff ff ff ff ff 01"},
		{[]uint64{top - 1, top}, "02 fe ff ff ff ff ff ff ff ff 01 00"},
		{[]uint64{300, 6, 5, 6}, "03 05 00 a5 02"},
	} {
		if got := idlist.Pack(x.l); !bytes.Equal(got, raw(x.b)) {
			t.Errorf("Pack(%v) = % x, want %s", x.l, got, x.b)
		}
		got, e := idlist.Unpack(raw(x.b))
		if e != api.OK {
			t.Errorf("Unpack(%s): %v", x.b, e)
		}
		is(t, "Unpack("+x.b+")", got, setOf(x.l)...)
	}
}

func TestPack(t *testing.T) {
	lists := append(shortLists(4), someLists()...)
	lists = append(lists, upTo(127, 1), upTo(128, 1), upTo(129, 1), upTo(16384, 1), upTo(130*130, 130))
	for bit := range 64 {
		n := uint64(1) << bit
		lists = append(lists, []uint64{n - 1}, []uint64{n}, []uint64{3, n + 3}, []uint64{n, 0, n + 1})
	}
	for _, l := range lists {
		if got, want := idlist.Pack(l), packBy(l); !bytes.Equal(got, want) {
			t.Errorf("Pack(%s) = % x, want % x", brief(l), got, want)
		}
	}
}

func TestUnpackRefuses(t *testing.T) {
	for _, x := range []struct {
		b    string
		want api.Errno
	}{
		// It ends ahead of what must come: the count, a byte of it, a number, a byte of one.
		{"", api.ErrShort},
		{"80", api.ErrShort},
		{nineBytes, api.ErrShort},
		{"01", api.ErrShort},
		{"01 80", api.ErrShort},
		{"01" + nineBytes, api.ErrShort},
		{"02 05", api.ErrShort},
		{"02 05 ff", api.ErrShort},
		{"03 05 00", api.ErrShort},
		{topBytes, api.ErrShort},
		{topBytes + "00 00 00", api.ErrShort},
		{highBytes + "05", api.ErrShort},
		// Behind the greatest number none can stand, but none is read, either.
		{"02" + topBytes, api.ErrShort},
		{"02" + topBytes + "80", api.ErrShort},
		// A number's bytes are not as few as can be.
		{"80 00", api.ErrArg},
		{"81 00", api.ErrArg},
		{"80 80 00", api.ErrArg},
		{"01 80 00", api.ErrArg},
		{"01 ff 00", api.ErrArg},
		{"01" + nineBytes + "00", api.ErrArg},
		{"02 05 80 00", api.ErrArg},
		{"02 05 85 80 00", api.ErrArg},
		// It is above 2^64 - 1; what stands behind a tenth byte does not count.
		{nineBytes + "02", api.ErrArg},
		{nineBytes + "7f", api.ErrArg},
		{nineBytes + "80", api.ErrArg},
		{nineBytes + "81", api.ErrArg},
		{nineBytes + "ff", api.ErrArg},
		{nineBytes + "81 00", api.ErrArg},
		{"01" + nineBytes + "02", api.ErrArg},
		{"01" + nineBytes + "80", api.ErrArg},
		{"01" + nineBytes + "81 01 05", api.ErrArg},
		{"01 80 80 80 80 80 80 80 80 80 02", api.ErrArg},
		{"02 05" + nineBytes + "82 00", api.ErrArg},
		// One of the list would be above 2^64 - 1.
		{"02" + topBytes + "00", api.ErrArg},
		{"02" + topBytes + topBytes, api.ErrArg},
		{"02 00" + topBytes, api.ErrArg},
		{"02" + highBytes + nineBytes[:24] + "7f", api.ErrArg},
		{"02 fe ff ff ff ff ff ff ff ff 01 01", api.ErrArg},
		{"03 05 00" + topBytes, api.ErrArg},
		// Bytes are left at the end.
		{"00 00", api.ErrArg},
		{"00 80", api.ErrArg},
		{"01 05 05", api.ErrArg},
		{"01 05 80", api.ErrArg},
		{"02 05 00 00", api.ErrArg},
		// Of several the first counts.
		{"02 80 00", api.ErrArg},
		{"03" + topBytes + "00", api.ErrArg},
		{"02 80 00 80", api.ErrArg},
	} {
		if l, e := idlist.Unpack(raw(x.b)); len(l) != 0 || e != x.want {
			t.Errorf("Unpack(%s) = %v, %v, want %v", x.b, l, e, x.want)
		}
	}
}

func TestUnpackTakesTheGreatest(t *testing.T) {
	for _, x := range []struct {
		b    string
		want []uint64
	}{
		{"01" + topBytes, []uint64{top}},
		{"02 00 fe ff ff ff ff ff ff ff ff 01", []uint64{0, top}},
		{"02" + highBytes + "fe ff ff ff ff ff ff ff 7f", []uint64{1 << 63, top}},
		{"03 fd ff ff ff ff ff ff ff ff 01 00 00", []uint64{top - 2, top - 1, top}},
	} {
		got, e := idlist.Unpack(raw(x.b))
		if e != api.OK {
			t.Errorf("Unpack(%s): %v", x.b, e)
		}
		is(t, "Unpack("+x.b+")", got, x.want...)
	}
}

func checkUnpack(t *testing.T, b []byte) api.Errno {
	t.Helper()
	want, wantE := unpackBy(b)
	got, e := idlist.Unpack(b)
	if e != wantE || !slices.Equal(got, want) {
		t.Errorf("Unpack(% x) = %v, %v, want %v, %v", b, got, e, want, wantE)
	}
	if e == api.OK && !bytes.Equal(idlist.Pack(got), b) {
		t.Errorf("Unpack takes % x, which is no Pack", b)
	}
	return e
}

func TestUnpackOfShortBytes(t *testing.T) {
	for _, b := range rowsOf([]byte{0x00, 0x01, 0x02, 0x7f, 0x80, 0x81, 0xff}, 6) {
		checkUnpack(t, b)
	}
	for first := range 256 {
		for second := range 256 {
			checkUnpack(t, []byte{1, byte(first), byte(second)})
			checkUnpack(t, []byte{byte(first), byte(second)})
		}
	}
}

func TestUnpackOfTenthBytes(t *testing.T) {
	for _, head := range []string{nineBytes, highBytes[:26], "01" + nineBytes, "02 07" + nineBytes, "02" + highBytes + nineBytes} {
		for tenth := range 256 {
			for _, tail := range []string{"", "00", "01", "80"} {
				checkUnpack(t, slices.Concat(raw(head), []byte{byte(tenth)}, raw(tail)))
			}
		}
	}
}

// Whole packs are cut at every place, and have every byte changed.
func TestUnpackOfHurtPacks(t *testing.T) {
	r := rand.New(rand.NewSource(7))
	told := map[api.Errno]int{}
	for _, l := range someLists() {
		whole := packBy(l)
		for at := range len(whole) + 1 {
			told[checkUnpack(t, whole[:at])]++
			if at == len(whole) {
				continue
			}
			for range 8 {
				hurt := bytes.Clone(whole)
				hurt[at] = byte(r.Intn(256))
				told[checkUnpack(t, hurt)]++
			}
		}
	}
	if told[api.OK] < 100 || told[api.ErrShort] < 100 || told[api.ErrArg] < 100 || len(told) != 3 {
		t.Errorf("told %v", told)
	}
}

// A count that the bytes do not bear out may not cost memory.
func TestUnpackOfAGreatCount(t *testing.T) {
	for _, count := range []string{topBytes, highBytes, "ff ff ff ff 7f"} {
		b := append(raw(count), make([]byte, 1000)...)
		if l, e := idlist.Unpack(b); len(l) != 0 || e != api.ErrShort {
			t.Errorf("Unpack = %s, %v", brief(l), e)
		}
		if most := testing.AllocsPerRun(10, func() { idlist.Unpack(b) }); most > 100 {
			t.Errorf("%v pieces of memory", most)
		}
	}
}
