package ber_test

import (
	"bytes"
	"math"
	"math/big"
	"testing"

	"roster/api"
	"roster/ber"
)

// body lays a body among other bytes, and tells the item of it.
func body(octets []byte) ([]byte, api.Tlv) {
	b := append([]byte{0xff, 0x00, 0x7f}, octets...)
	b = append(b, 0xff, 0x00)
	return b, api.Tlv{From: 3, To: 3 + len(octets)}
}

// intBy is Int by sums of any size: the first octet counts as a negative number where it is 80 or more.
func intBy(octets []byte) (int64, api.Errno) {
	if len(octets) == 0 || len(octets) > 8 {
		return 0, api.ErrInt
	}
	if len(octets) > 1 {
		if octets[0] == 0 && octets[1] < 128 || octets[0] == 255 && octets[1] > 127 {
			return 0, api.ErrInt
		}
	}
	v := new(big.Int).SetBytes(octets)
	if octets[0] >= 128 {
		v.Sub(v, new(big.Int).Lsh(big.NewInt(1), uint(8*len(octets))))
	}
	return v.Int64(), api.OK
}

func checkInt(t *testing.T, octets []byte) {
	t.Helper()
	b, item := body(octets)
	before := bytes.Clone(b)
	want, wantE := intBy(octets)
	if v, e := ber.Int(b, item); v != want || e != wantE {
		t.Errorf("Int of % x = %d, %d, want %d, %d", octets, v, e, want, wantE)
	}
	if !bytes.Equal(b, before) {
		t.Errorf("Int wrote into % x", before)
	}
}

func TestIntExamples(t *testing.T) {
	for s, want := range map[string]int64{"7F": 127, "00 80": 128, "FF 7F": -129, "80": -128} {
		b := raw(s)
		if v, e := ber.Int(b, api.Tlv{To: len(b)}); v != want || e != api.OK {
			t.Errorf("Int of %s = %d, %d", s, v, e)
		}
	}
	for _, s := range []string{"00 7F", "FF 80", "", "01 02 03 04 05 06 07 08 09"} {
		b := raw(s)
		if v, e := ber.Int(b, api.Tlv{To: len(b)}); v != 0 || e != api.ErrInt {
			t.Errorf("Int of %s = %d, %d", s, v, e)
		}
	}
}

func TestIntOfEachOctetAndPair(t *testing.T) {
	for a := range 256 {
		checkInt(t, []byte{byte(a)})
		for b := range 256 {
			checkInt(t, []byte{byte(a), byte(b)})
			checkInt(t, []byte{byte(a), byte(b), byte(a ^ b), 0x80})
		}
	}
}

func TestIntOfEachWidth(t *testing.T) {
	for n := range 12 {
		for _, a := range telling {
			for _, b := range telling {
				octets := bytes.Repeat([]byte{b}, n)
				if n > 0 {
					octets[0] = a
				}
				checkInt(t, octets)
				if n > 1 {
					octets[1] = 0x7f
					checkInt(t, octets)
					octets[1] = 0x80
					checkInt(t, octets)
				}
			}
		}
	}
}

func TestIntAtItsEnds(t *testing.T) {
	for s, want := range map[string]int64{
		"00": 0, "01": 1, "FF": -1, "00 FF": 255, "01 00": 256, "FF 00": -256,
		"7F FF FF FF FF FF FF FF": math.MaxInt64, "80 00 00 00 00 00 00 00": math.MinInt64, "00 80 00 00 00 00 00 00": 1 << 55, "FF 7F FF FF FF FF FF FF": -1<<55 - 1,
	} {
		b := raw(s)
		if v, e := ber.Int(b, api.Tlv{To: len(b)}); v != want || e != api.OK {
			t.Errorf("Int of %s = %d, %d", s, v, e)
		}
	}
	for _, s := range []string{"00 00", "FF FF", "00 7F FF", "FF 80 00", "00 7F FF FF FF FF FF FF", "FF 80 00 00 00 00 00 00", "00 80 00 00 00 00 00 00 00", "FF 7F FF FF FF FF FF FF FF", "00 00 00 00 00 00 00 00 01"} {
		b := raw(s)
		if v, e := ber.Int(b, api.Tlv{To: len(b)}); v != 0 || e != api.ErrInt {
			t.Errorf("Int of %s = %d, %d", s, v, e)
		}
	}
}

func TestFlag(t *testing.T) {
	check := func(octets ...byte) {
		b, item := body(octets)
		want, wantE := false, api.ErrBool
		if len(octets) == 1 && octets[0] == 255 {
			want, wantE = true, api.OK
		} else if len(octets) == 1 && octets[0] == 0 {
			wantE = api.OK
		}
		if v, e := ber.Flag(b, item); v != want || e != wantE {
			t.Errorf("Flag of % x = %v, %d", octets, v, e)
		}
	}
	check()
	for a := range 256 {
		check(byte(a))
		for b := range 256 {
			check(byte(a), byte(b))
		}
	}
	check(0xff, 0xff, 0xff)
	check(0, 0, 0)
}

func TestTextIsTheBody(t *testing.T) {
	for _, s := range []string{"", "h", "hi", "\x00", "\xff\x00\xc3", string(make([]byte, 70000))} {
		b, item := body([]byte(s))
		if got, e := ber.Text(b, item); got != s || e != api.OK {
			t.Errorf("Text of %q = %q, %d", s, got, e)
		}
	}
}

func TestTextStaysAsItWas(t *testing.T) {
	b := []byte("hi there")
	s, _ := ber.Text(b, api.Tlv{From: 1, To: 8})
	copy(b, "--------")
	if s != "i there" {
		t.Errorf("%q", s)
	}
}

// all asks the three of one item: the numbers of their errors, and whether all else is zero.
func all(b []byte, item api.Tlv) (errs [3]api.Errno, zero bool) {
	v, eInt := ber.Int(b, item)
	f, eFlag := ber.Flag(b, item)
	s, eText := ber.Text(b, item)
	return [3]api.Errno{eInt, eFlag, eText}, v == 0 && !f && s == ""
}

func same(e api.Errno) [3]api.Errno { return [3]api.Errno{e, e, e} }

func TestPlacesOfAnItem(t *testing.T) {
	for _, n := range []int{0, 1, 3} {
		b := bytes.Repeat([]byte{0xff}, n)
		for _, from := range places(n) {
			for _, to := range places(n) {
				for _, made := range []bool{false, true} {
					item := api.Tlv{Cons: made, From: from, To: to}
					errs, zero := all(b, item)
					inside := 0 <= from && from <= to && to <= n
					switch {
					case !inside && (errs != same(api.ErrArg) || !zero):
						t.Errorf("%v of %d bytes: %v", item, n, errs)
					case inside && made && (errs != same(api.ErrTag) || !zero):
						t.Errorf("%v of %d bytes: %v", item, n, errs)
					case inside && !made && errs[2] != api.OK:
						t.Errorf("%v of %d bytes: %v", item, n, errs)
					}
				}
			}
		}
	}
	if errs, zero := all(nil, api.Tlv{To: 1}); errs != same(api.ErrArg) || !zero {
		t.Errorf("of nothing: %v", errs)
	}
	if errs, zero := all(raw("FF FF")[:1], api.Tlv{To: 2}); errs != same(api.ErrArg) || !zero {
		t.Errorf("of the room behind: %v", errs)
	}
}

// Being made of others counts ahead of what the body is.
func TestMadeOfOthersIsNoValue(t *testing.T) {
	for _, s := range []string{"", "FF", "00", "01", "00 7F", "01 02 03 04 05 06 07 08 09"} {
		b := raw(s)
		if errs, zero := all(b, api.Tlv{Cons: true, To: len(b)}); errs != same(api.ErrTag) || !zero {
			t.Errorf("%s: %v", s, errs)
		}
	}
}

func TestClassAndNumberCountForNothing(t *testing.T) {
	for class := -128; class < 128; class++ {
		for _, number := range []int{math.MinInt, -1, 0, 1, 2, 4, 30, 31, 32, math.MaxInt} {
			item := api.Tlv{Class: int8(class), Number: number, To: 1}
			v, eInt := ber.Int([]byte{0xff}, item)
			f, eFlag := ber.Flag([]byte{0xff}, item)
			s, eText := ber.Text([]byte{0xff}, item)
			if v != -1 || !f || s != "\xff" || eInt != api.OK || eFlag != api.OK || eText != api.OK {
				t.Errorf("%v: %d, %v, %q, %d, %d, %d", item, v, f, s, eInt, eFlag, eText)
			}
		}
	}
}
