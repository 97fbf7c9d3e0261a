package code_test

import (
	"bytes"
	"slices"
	"testing"

	"roster/api"
	"roster/code"
)

// The chapter's examples, and bytes written by hand for each kind of constant and instruction.
func TestEncode(t *testing.T) {
	for _, x := range []struct {
		p    api.Program
		want string
	}{
		{program(all), "52 50 01 00 01 01"},
		{named(getA), "52 50 01 01 00 01 03 01 61 00 01 02 00"},
		{program(nothing), "52 50 01 00 01 00"},
		{program(nothing, all, meet, all, join, all, less), "52 50 01 00 07 00 01 04 01 05 01 06"},
		{with(program(fetch(0), tested(1)), getA, testX), "52 50 01 02 00 01 03 01 61 00 01 03 02 63 6E 01 78 02 02 00 03 01"},
		{unused(get(api.GetHave, 0, "")), "52 50 01 01 00 00 00 00 00 01 01"},
		{unused(get(api.GetEqual, 127, "")), "52 50 01 01 00 01 7F 00 00 01 01"},
		{unused(get(api.GetFrom, 128, "ab")), "52 50 01 01 00 02 80 01 02 61 62 00 01 01"},
		{unused(get(api.GetUpTo, 1023, "\x00")), "52 50 01 01 00 03 FF 07 01 00 00 01 01"},
		{unused(get(api.GetPart, 2, "", "", "")), "52 50 01 01 00 04 02 00 02 00 00 01 01"},
		{unused(get(api.GetPart, 2, "", "a", "", "\xff\x80")), "52 50 01 01 00 04 02 00 03 01 61 00 02 FF 80 01 01"},
		{unused(test(and(have("a"), have("b")))), "52 50 01 01 01 00 02 07 01 61 07 01 62 01 01"},
		{unused(test(or(have("a")))), "52 50 01 01 01 01 01 07 01 61 01 01"},
		{unused(test(not(not(have("a"))))), "52 50 01 01 01 02 02 07 01 61 01 01"},
		{unused(test(equal("a", ""))), "52 50 01 01 01 03 01 61 00 01 01"},
		{unused(test(item(api.FMore, "a", "v"))), "52 50 01 01 01 05 01 61 01 76 01 01"},
		{unused(test(item(api.FLess, "a", "v"))), "52 50 01 01 01 06 01 61 01 76 01 01"},
		{unused(test(item(api.FLike, "a", "v"))), "52 50 01 01 01 08 01 61 01 76 01 01"},
		{unused(test(part("a", "s", "e"))), "52 50 01 01 01 04 01 61 01 73 00 01 65 01 01"},
		{unused(test(part("a", "", "", "m", "no"))), "52 50 01 01 01 04 01 61 00 02 01 6D 02 6E 6F 00 01 01"},
		{unused(test(ruled("a", "", "v", false))), "52 50 01 01 01 09 01 61 00 01 76 00 01 01"},
		{unused(test(ruled("", "r", "", true))), "52 50 01 01 01 09 00 01 72 00 01 01 01"},
		{unused(test(and(not(ruled("a", "r", "v", true)), or(have("b"))))), "52 50 01 01 01 00 02 02 09 01 61 01 72 01 76 01 01 01 07 01 62 01 01"},
	} {
		b := raw(x.want)
		checkEncode(t, x.p, b)
		checkTaken(t, b, x.p)
		checkProgram(t, x.p)
	}
}

// Numbers change how many groups they have.
func TestEncodeNumbers(t *testing.T) {
	sizes := []int{0, 1, 126, 127, 128, 129, 255, 256, 16382, 16383, 16384, 16385, 65535, 65536}
	for _, size := range sizes {
		checkProgram(t, unused(get(api.GetEqual, 1, filled(size))))
		checkProgram(t, unused(get(api.GetPart, 1, "", filled(size), "")))
		checkProgram(t, unused(test(equal("a", filled(size)))))
		if size > 0 {
			checkProgram(t, unused(test(part("a", "", "", filled(size)))))
			checkProgram(t, unused(test(part("a", "", "", slices.Repeat([]string{"m"}, size)...))))
			checkProgram(t, unused(test(and(slices.Repeat([]api.Filter{have("a")}, min(size, 65535))...))))
			checkProgram(t, unused(get(api.GetPart, 1, "", slices.Repeat([]string{""}, size+1)...)))
		}
		checkProgram(t, unused(slices.Repeat([]api.Const{getA}, size)...))
		consts := slices.Repeat([]api.Const{get(api.GetHave, 0, "")}, size+1)
		checkProgram(t, with(program(fetch(size)), consts...))
		consts[size] = testX
		checkProgram(t, with(program(all, tested(size)), consts...))
		checkProgram(t, with(program(append([]api.Instr{all}, slices.Repeat([]api.Instr{tested(0)}, size)...)...), testX))
	}
	for _, place := range []int{0, 1, 127, 128, 129, 1022, 1023} {
		checkProgram(t, unused(get(api.GetHave, place, "")))
	}
	checkProgram(t, unused(get(api.GetEqual, 1, filled(8*api.MaxText))))
}

// sized is a program whose bytes are so many, more than a key's.
func sized(size int) api.Program {
	p := unused(get(api.GetEqual, 3, filled(8*api.MaxText)), get(api.GetUpTo, 3, filled(100000)))
	p.Consts[1].Fetch.Key = filled(100000 + size - len(written(p).b))
	return p
}

// P18.2: bytes of just MaxBytes, and one more.
func TestEncodeMaxBytes(t *testing.T) {
	for size := api.MaxBytes - 3; size <= api.MaxBytes+3; size++ {
		p := sized(size)
		if len(written(p).b) != size {
			t.Fatalf("%d bytes; want %d", len(written(p).b), size)
		}
		checkDepth(t, p, 1)
		b, e := code.Encode(p)
		if size > api.MaxBytes {
			if len(b) != 0 || e != api.ErrLong {
				t.Errorf("%d bytes: %d, %v", size, len(b), e)
			}
			continue
		}
		if !bytes.Equal(b, written(p).b) || e != api.OK {
			t.Errorf("%d bytes: %d, %v", size, len(b), e)
		}
		checkTaken(t, b, p)
	}
}

func checkLong(t *testing.T, p api.Program) {
	t.Helper()
	checkCheck(t, p, api.OK, 0)
	if b, e := code.Encode(p); len(b) != 0 || e != api.ErrLong {
		t.Errorf("Encode(%s) is %d bytes, %v", shown(p), len(b), e)
	}
}

// Whatever it is that does not fit any more: a text, a number, a byte, all of an instruction or its end.
func TestEncodeLong(t *testing.T) {
	p := sized(api.MaxBytes)
	p.Code = append(p.Code, nothing, join)
	checkLong(t, p)
	p = sized(api.MaxBytes - 1)
	p.Consts = append(p.Consts, testX)
	p.Code = append(p.Code, tested(2))
	checkLong(t, p)
	for behind := range 40 {
		p := sized(api.MaxBytes - behind)
		p.Consts = append(p.Consts, test(and(part("cn", "s", "e", "m"), ruled("cn", "r", "v", true))), get(api.GetPart, 1, "", "a", "b"))
		p.Code = append(p.Code, tested(2), fetch(3), less)
		if e := checkProgram(t, p); e != api.OK {
			t.Errorf("%v", e)
		}
	}
	// A lot of bytes that are the same: they are not written down.
	key, text := filled(8*api.MaxText), filled(api.MaxText)
	checkLong(t, unused(slices.Repeat([]api.Const{get(api.GetEqual, 1, key)}, api.MaxCode)...))
	checkLong(t, unused(get(api.GetPart, 1, "", slices.Repeat([]string{text}, 1<<18)...)))
	checkLong(t, unused(test(or(slices.Repeat([]api.Filter{equal("cn", text)}, api.MaxNodes-1)...))))
	checkLong(t, with(program(append([]api.Instr{all}, slices.Repeat([]api.Instr{tested(0)}, api.MaxCode-1)...)...), testX))
	// Check's error comes ahead.
	checkCheck(t, with(program(), slices.Repeat([]api.Const{get(api.GetEqual, 1, key)}, 1000)...), api.ErrStack, 1000)
	checkCheck(t, unused(append(slices.Repeat([]api.Const{get(api.GetEqual, 1, key)}, 1000), test(and()))...), api.ErrCode, 1000)
}
