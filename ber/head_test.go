package ber_test

import (
	"bytes"
	"encoding/hex"
	"math"
	"math/big"
	"slices"
	"strings"
	"testing"

	"roster/api"
	"roster/ber"
)

// raw reads bytes to the base 16, blanks between them.
func raw(s string) []byte {
	b, err := hex.DecodeString(strings.ReplaceAll(s, " ", ""))
	if err != nil {
		panic(err)
	}
	return b
}

// places are numbers within n bytes, just outside them, and far from them.
func places(n int) []int {
	out := []int{math.MinInt, math.MinInt + 1, -1 << 32, -2, -1, 1 << 32, math.MaxInt - 1, math.MaxInt}
	for k := range n + 3 {
		out = append(out, k)
	}
	return out
}

// headBy is Head by the chapter's words one behind the other, with lengths of any size.
func headBy(b []byte, at, end int) (api.Tlv, api.Errno) {
	if at < 0 || end < at || len(b) < end {
		return api.Tlv{}, api.ErrArg
	}
	octets := slices.Clone(b[at:end])
	if len(octets) == 0 {
		return api.Tlv{}, api.ErrShort
	}
	class, made, number := octets[0]/64, octets[0]/32%2 == 1, octets[0]%32
	if number == 31 {
		return api.Tlv{}, api.ErrTag
	}
	if len(octets) == 1 {
		return api.Tlv{}, api.ErrShort
	}
	first := int(octets[1])
	if first == 128 || first == 255 {
		return api.Tlv{}, api.ErrForm
	}
	rest := octets[2:]
	length := big.NewInt(int64(first))
	if first > 127 {
		if len(rest) < first-128 {
			return api.Tlv{}, api.ErrShort
		}
		length.SetBytes(rest[:first-128])
		rest = rest[first-128:]
	}
	if length.Cmp(big.NewInt(int64(len(rest)))) > 0 {
		return api.Tlv{}, api.ErrShort
	}
	from := end - len(rest)
	return api.Tlv{Class: int8(class), Cons: made, Number: int(number), From: from, To: from + int(length.Int64())}, api.OK
}

func checkHead(t *testing.T, b []byte, at, end int) {
	t.Helper()
	before := bytes.Clone(b[:cap(b)])
	want, wantE := headBy(b, at, end)
	if got, e := ber.Head(b, at, end); got != want || e != wantE {
		t.Errorf("Head(% x, %d, %d) = %v, %d, want %v, %d", b, at, end, got, e, want, wantE)
	}
	if !bytes.Equal(before, b[:cap(b)]) {
		t.Errorf("Head(% x) wrote into its argument", before)
	}
}

func TestHeadExamples(t *testing.T) {
	for _, c := range []struct {
		b       string
		at, end int
		want    api.Tlv
		e       api.Errno
	}{
		{"04 02 68 69", 0, 4, api.Tlv{Number: 4, From: 2, To: 4}, api.OK},
		{"30 81 01 00", 0, 4, api.Tlv{Cons: true, Number: 16, From: 3, To: 4}, api.OK},
		{"A3 00", 0, 2, api.Tlv{Class: 2, Cons: true, Number: 3, From: 2, To: 2}, api.OK},
		{"04 82 00 01 78", 0, 5, api.Tlv{Number: 4, From: 4, To: 5}, api.OK},
		{"04 81", 0, 2, api.Tlv{}, api.ErrShort},
		{"04 05 78", 0, 3, api.Tlv{}, api.ErrShort},
		{"04", 0, 1, api.Tlv{}, api.ErrShort},
		{"1F 81 00", 0, 3, api.Tlv{}, api.ErrTag},
		{"04 80", 0, 2, api.Tlv{}, api.ErrForm},
		{"04 FF", 0, 2, api.Tlv{}, api.ErrForm},
		{"", 0, 0, api.Tlv{}, api.ErrShort},
		{"", 1, 0, api.Tlv{}, api.ErrArg},
	} {
		if got, e := ber.Head(raw(c.b), c.at, c.end); got != c.want || e != c.e {
			t.Errorf("Head(%s, %d, %d) = %v, %d", c.b, c.at, c.end, got, e)
		}
	}
}

func TestHeadOfEachTag(t *testing.T) {
	for class := range 4 {
		for made := range 2 {
			for number := range 32 {
				tag := byte(class*64 + made*32 + number)
				got, e := ber.Head([]byte{tag, 0}, 0, 2)
				want := api.Tlv{Class: int8(class), Cons: made == 1, Number: number, From: 2, To: 2}
				if number == 31 {
					want = api.Tlv{}
				}
				if got != want || (e == api.ErrTag) != (number == 31) || number != 31 && e != api.OK {
					t.Errorf("tag %02x: %v, %d", tag, got, e)
				}
			}
		}
	}
}

// The high form counts ahead of a length that is missing or wrong.
func TestHeadOfHighForms(t *testing.T) {
	for _, s := range []string{"1F", "3F", "5F", "7F", "9F", "BF", "DF", "FF"} {
		for _, behind := range []string{"", "00", "80", "FF", "81", "05", "81 00", "82 FF FF"} {
			b := raw(s + behind)
			if got, e := ber.Head(b, 0, len(b)); got != (api.Tlv{}) || e != api.ErrTag {
				t.Errorf("Head(%s %s) = %v, %d", s, behind, got, e)
			}
		}
	}
}

func TestHeadOfEachFirstOctetOfALength(t *testing.T) {
	for first := range 256 {
		for _, n := range []int{0, 1, 2, 125, 126, 127, 128, 129, 253, 254, 255, 256} {
			for _, fill := range []byte{0, 1, 0xff} {
				b := append([]byte{0x24, byte(first)}, bytes.Repeat([]byte{fill}, n)...)
				checkHead(t, b, 0, len(b))
			}
		}
	}
}

func TestHeadWhereTheLengthIsNotAll(t *testing.T) {
	for count := 1; count <= 126; count++ {
		b := append([]byte{0x04, 0x80 + byte(count)}, make([]byte, count)...)
		if got, e := ber.Head(b, 0, len(b)-1); got != (api.Tlv{}) || e != api.ErrShort {
			t.Errorf("%d octets, one missing: %v, %d", count, got, e)
		}
		if got, e := ber.Head(b, 0, len(b)); got != (api.Tlv{Number: 4, From: 2 + count, To: 2 + count}) || e != api.OK {
			t.Errorf("%d noughts: %v, %d", count, got, e)
		}
	}
}

func TestHeadWithNoughtsAhead(t *testing.T) {
	for count := 1; count <= 126; count++ {
		for _, n := range []int{0, 1, 127, 128, 255, 256, 300} {
			octets := make([]byte, count)
			octets[count-1] = byte(n)
			if count > 1 {
				octets[count-2] = byte(n >> 8)
			} else if n > 255 {
				continue
			}
			b := append([]byte{0x04, 0x80 + byte(count)}, octets...)
			b = append(b, make([]byte, n)...)
			for end := max(0, len(b)-2); end <= len(b); end++ {
				checkHead(t, b, 0, end)
			}
			if got, e := ber.Head(b, 0, len(b)); got != (api.Tlv{Number: 4, From: 2 + count, To: len(b)}) || e != api.OK {
				t.Errorf("%d octets say %d: %v, %d", count, n, got, e)
			}
		}
	}
}

// A length that an int or 64 bits do not hold is longer than what is left, whatever its low bits are.
func TestHeadOfLengthsBeyondAnyInt(t *testing.T) {
	for _, length := range []string{
		"84 7F FF FF FF", "84 80 00 00 00", "84 80 00 00 01", "84 FF FF FF FF", "85 01 00 00 00 00", "85 01 00 00 00 02",
		"88 7F FF FF FF FF FF FF FF", "88 80 00 00 00 00 00 00 00", "88 80 00 00 00 00 00 00 02", "88 FF FF FF FF FF FF FF FF", "88 FF FF FF FF FF FF FF FE",
		"89 01 00 00 00 00 00 00 00 00", "89 01 00 00 00 00 00 00 00 02", "89 80 00 00 00 00 00 00 00 01", "8A 01 00 00 00 00 00 00 00 00 02",
		"90 01 00 00 00 00 00 00 00 00 00 00 00 00 00 00 02", "FE 01" + strings.Repeat(" 00", 125), "FE 01" + strings.Repeat(" 00", 124) + " 02", "FE" + strings.Repeat(" FF", 126),
	} {
		b := raw("04" + length + "78 79")
		if got, e := ber.Head(b, 0, len(b)); got != (api.Tlv{}) || e != api.ErrShort {
			t.Errorf("length %s: %v, %d", length, got, e)
		}
	}
}

func TestHeadOfLongBodies(t *testing.T) {
	for _, c := range []struct {
		head string
		n    int
	}{{"7F", 127}, {"81 80", 128}, {"81 FF", 255}, {"82 01 00", 256}, {"82 FF FF", 1<<16 - 1}, {"83 01 00 00", 1 << 16}, {"84 01 00 00 00", 1 << 24}} {
		b := raw("64" + c.head)
		from := len(b)
		b = append(b, make([]byte, c.n)...)
		if got, e := ber.Head(b, 0, len(b)); got != (api.Tlv{Class: 1, Cons: true, Number: 4, From: from, To: from + c.n}) || e != api.OK {
			t.Errorf("%s: %v, %d", c.head, got, e)
		}
		if got, e := ber.Head(b, 0, len(b)-1); got != (api.Tlv{}) || e != api.ErrShort {
			t.Errorf("%s, one missing: %v, %d", c.head, got, e)
		}
	}
}

func TestHeadAtAnyPlaces(t *testing.T) {
	for _, s := range []string{"", "04", "04 00", "1F 00 04 00 FF", "04 81 01 78 04 01 79", "30 04 04 02 68 69 80"} {
		b := raw(s)
		for _, at := range places(len(b)) {
			for _, end := range places(len(b)) {
				checkHead(t, b, at, end)
			}
		}
	}
	for _, at := range places(0) {
		for _, end := range places(0) {
			checkHead(t, nil, at, end)
		}
	}
}

// The room behind the bytes is not theirs.
func TestHeadDoesNotLookBehindTheBytes(t *testing.T) {
	b := raw("04 02 68 69")
	for n := range 4 {
		short := b[:n]
		checkHead(t, short, 0, n)
		if got, e := ber.Head(short, 0, 4); got != (api.Tlv{}) || e != api.ErrArg {
			t.Errorf("%d bytes of four: %v, %d", n, got, e)
		}
	}
}

// telling are bytes at and beside the edges that the chapter names.
var telling = []byte{0x00, 0x01, 0x02, 0x04, 0x1e, 0x1f, 0x30, 0x3f, 0x7f, 0x80, 0x81, 0x82, 0x83, 0xa3, 0xdf, 0xfe, 0xff}

// rowsOf goes over all rows of n telling bytes.
func rowsOf(n int, do func(b []byte)) {
	if n == 0 {
		do(nil)
		return
	}
	rowsOf(n-1, func(b []byte) {
		for _, o := range telling {
			do(append(slices.Clone(b), o))
		}
	})
}

func TestHeadOfAllShortRows(t *testing.T) {
	for n := range 5 {
		rowsOf(n, func(b []byte) {
			for at := range len(b) + 1 {
				checkHead(t, b, at, len(b))
			}
		})
	}
}
