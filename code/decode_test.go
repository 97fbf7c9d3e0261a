package code_test

import (
	"bytes"
	"encoding/binary"
	"fmt"
	"runtime"
	"slices"
	"testing"

	"roster/api"
	"roster/code"
)

// The chapter's examples.
func TestDecodeExamples(t *testing.T) {
	checkWrong(t, raw("52 50 02"), api.ErrCode, 2)
	checkWrong(t, raw("52 50 01 00 01"), api.ErrShort, 5)
	checkWrong(t, raw("52 50 01 00 01 01 00"), api.ErrMore, 6)
	checkWrong(t, raw("52 50 01 80 00 01 01"), api.ErrCode, 3)
	checkWrong(t, raw("52 50 01 00 00"), api.ErrStack, 0)
	checkTaken(t, raw("52 50 01 00 01 01"), program(all))
	checkTaken(t, raw("52 50 01 01 00 01 03 01 61 00 01 02 00"), named(getA))
}

// rich has a constant of each kind, and an instruction of each.
func rich() api.Program {
	consts := []api.Const{
		get(api.GetHave, 0, ""), getA, get(api.GetFrom, 200, "\x80\x00"), get(api.GetUpTo, 1023, ""), get(api.GetPart, 4, "", "a", "", "bcd"),
		test(and(equal("cn", "x"), or(have("a"), not(part("sn;x", "s", "", "m", "mm"))))), test(not(ruled("cn", "", "v", true))), test(ruled("", "r", "", false)),
		test(or(item(api.FMore, "a", "1"), item(api.FLess, "b", ""), item(api.FLike, "c", filled(130)))), test(part("cn", "", "end")),
	}
	return with(program(all, tested(5), fetch(1), less, nothing, join, fetch(4), tested(6), meet, tested(7)), consts...)
}

// Bytes that end at each place, and bytes behind the end.
func TestDecodeEnds(t *testing.T) {
	b := written(rich()).b
	checkTaken(t, b, rich())
	for size := range len(b) {
		checkWrong(t, b[:size], api.ErrShort, size)
		// What stands behind the end of what is handed in does not count.
		checkWrong(t, b[:size:size], api.ErrShort, size)
	}
	for _, more := range []string{"00", "01", "80", "FF", "52 50 01 00 01 01"} {
		checkWrong(t, append(slices.Clone(b), raw(more)...), api.ErrMore, len(b))
	}
	checkWrong(t, slices.Concat(b, make([]byte, 100000)), api.ErrMore, len(b))
	checkWrong(t, nil, api.ErrShort, 0)
	checkWrong(t, []byte{}, api.ErrShort, 0)
}

// Another byte than must stand there: the first three, whatever comes behind.
func TestDecodeHead(t *testing.T) {
	good := raw("52 50 01 00 01 01")
	for at := range 3 {
		for other := range 256 {
			b := slices.Clone(good)
			b[at] = byte(other)
			if byte(other) == good[at] {
				checkTaken(t, b, program(all))
				continue
			}
			checkWrong(t, b, api.ErrCode, at)
			checkWrong(t, b[:at+1], api.ErrCode, at)
			checkWrong(t, append(b, 0), api.ErrCode, at)
		}
	}
}

// instead has other bytes in the place of a token.
func instead(b []byte, x token, other []byte) []byte {
	return slices.Concat(b[:x.at], other, b[x.at+x.size:])
}

// wider is a number in so many groups more than it needs.
func wider(n uint64, more int) []byte {
	b := binary.AppendUvarint(nil, n)
	for range more {
		b[len(b)-1] |= 0x80
		b = append(b, 0)
	}
	return b
}

// Numbers, wherever one stands: not as short as can be, of more than five groups, above 2^31 - 1, cut off.
func TestDecodeNumbers(t *testing.T) {
	w := written(rich())
	seen := map[int]int{}
	for _, x := range w.tokens {
		if x.what != isCount && x.what != isPlace && x.what != isLength {
			continue
		}
		seen[x.what]++
		n, _ := binary.Uvarint(w.b[x.at:])
		for more := 1; more < 7; more++ {
			checkWrong(t, instead(w.b, x, wider(n, more)), api.ErrCode, x.at)
		}
		for _, great := range []uint64{1 << 31, 1<<31 + 1, 1 << 32, 1<<35 - 1, 1 << 35, 1 << 40, 1<<64 - 1} {
			checkWrong(t, instead(w.b, x, binary.AppendUvarint(nil, great)), api.ErrCode, x.at)
		}
		for groups := range 12 {
			open := bytes.Repeat([]byte{0x80}, groups)
			full := bytes.Repeat([]byte{0xff}, groups)
			want, where := api.ErrShort, x.at+groups
			if groups >= 5 {
				want, where = api.ErrCode, x.at
			}
			checkWrong(t, append(slices.Clone(w.b[:x.at]), open...), want, where)
			checkWrong(t, append(slices.Clone(w.b[:x.at]), full...), want, where)
		}
		// Numbers of one to five groups, up to 2^31 - 1, are read: there is just not that much.
		for _, n := range []uint64{1 << 20, 1<<21 - 1, 1 << 21, 1<<28 - 1, 1 << 28, 1<<31 - 1} {
			b := instead(w.b, x, binary.AppendUvarint(nil, n))
			switch x.what {
			case isPlace:
				checkWrong(t, b, api.ErrCode, 0) // Check's: no type, no constant
			case isLength:
				checkWrong(t, b, api.ErrShort, len(b))
			case isCount:
				if e, at := checkDecode(t, b); e == api.OK || at <= x.at {
					t.Errorf("%v at %d for %d at %d", e, at, n, x.at)
				}
			}
		}
	}
	for what, least := range map[int]int{isCount: 10, isPlace: 10, isLength: 25} {
		if seen[what] < least {
			t.Errorf("%d numbers of the sort %d", seen[what], what)
		}
	}
}

// Numbers of each size, one by one, as the Type of a fetch that nobody asks for.
func TestDecodeNumberTable(t *testing.T) {
	for s, want := range map[string]int{
		"00": 0, "01": 1, "7F": 127, "80 01": 128, "FF 07": 1023, // these may be
		"80 08": -1, "FF 7F": -1, "80 80 01": -1, "FF FF 7F": -1, "80 80 80 01": -1, "FF FF FF 7F": -1, "80 80 80 80 01": -1, "FF FF FF FF 07": -1, // these are numbers, but no types
		"80 00": -2, "81 00": -2, "80 80 00": -2, "FF FF 00": -2, "80 80 80 00": -2, "80 80 80 80 00": -2, "FF FF FF FF 00": -2, // one group too many
		"80 80 80 80 08": -2, "FF FF FF FF 08": -2, "FF FF FF FF 0F": -2, "80 80 80 80 10": -2, "FF FF FF FF 7F": -2, // too great
		"80 80 80 80 80 00": -2, "80 80 80 80 80 01": -2, "FF FF FF FF FF 01": -2, "81 80 80 80 80 80 80 80 80 00": -2, "80 80 80 80 80 80 80 80 80 02": -2, "FF FF FF FF FF FF FF FF FF 01": -2, // too many groups
	} {
		b := slices.Concat(raw("52 50 01 01 00 00"), raw(s), raw("00 00 01 01"))
		switch want {
		case -1:
			checkWrong(t, b, api.ErrCode, 0)
		case -2:
			checkWrong(t, b, api.ErrCode, 6)
		default:
			checkTaken(t, b, unused(get(api.GetHave, want, "")))
		}
		checkDecode(t, b)
	}
}

// Bytes that say a sort, a Kind, an Op or Dn: those that there are not, at their place; the others go on otherwise.
func TestDecodeBytes(t *testing.T) {
	w := written(rich())
	most := map[int]int{isSort: 1, isGetKind: 4, isKind: 9, isDn: 1, isOp: 6}
	seen := map[int]int{}
	for _, x := range w.tokens {
		last, ok := most[x.what]
		if !ok {
			continue
		}
		seen[x.what]++
		for other := range 256 {
			b := instead(w.b, x, []byte{byte(other)})
			if other > last {
				checkWrong(t, b, api.ErrCode, x.at)
				checkWrong(t, b[:x.at+1], api.ErrCode, x.at)
			}
			checkDecode(t, b)
		}
	}
	for what := range most {
		if seen[what] < 2 {
			t.Errorf("%d bytes of the sort %d", seen[what], what)
		}
	}
}

// Texts that say more bytes than are left: the end of b, however much more.
func TestDecodeTexts(t *testing.T) {
	start := raw("52 50 01 01 00 01 03")
	checkTaken(t, slices.Concat(start, raw("02 61 62 00 01 01")), unused(get(api.GetEqual, 3, "ab")))
	for _, says := range []string{"07", "08", "7F", "80 01", "FF FF 03", "FF FF FF FF 07"} {
		b := slices.Concat(start, raw(says), raw("61 62 00 01 01 00"))
		checkWrong(t, b, api.ErrShort, len(b))
		checkWrong(t, slices.Concat(start, raw(says)), api.ErrShort, len(start)+len(raw(says)))
	}
	// Six bytes are left: they are the text, and the Pieces are wanted behind it.
	checkWrong(t, slices.Concat(start, raw("06 61 62 00 01 01 00")), api.ErrShort, len(start)+7)
	checkWrong(t, slices.Concat(start, raw("05 61 62 00 01 01 00")), api.ErrShort, len(start)+7)
	checkWrong(t, slices.Concat(start, raw("04 61 62 00 01 01")), api.ErrShort, len(start)+6)
}

// deepBytes has so many Nots, Ands or Ors one in the other, and an item within.
func deepBytes(kind byte, many int) []byte {
	step := []byte{kind}
	if kind != api.FNot {
		step = append(step, 1)
	}
	return slices.Concat(raw("52 50 01 01 01"), bytes.Repeat(step, many), raw("07 01 61 01 01"))
}

// Filters MaxDepth deep, and one more: the place of the part that is too deep.
func TestDecodeDepth(t *testing.T) {
	for _, kind := range []byte{api.FAnd, api.FOr, api.FNot} {
		step := 2
		if kind == api.FNot {
			step = 1
		}
		checkTaken(t, deepBytes(kind, 63), unused(test(around(int8(kind), 63, have("a")))))
		for many := 64; many < 68; many++ {
			b := deepBytes(kind, many)
			checkWrong(t, b, api.ErrCode, 5+64*step)
			checkWrong(t, b[:5+64*step+1], api.ErrCode, 5+64*step)
			checkWrong(t, b[:5+64*step], api.ErrShort, 5+64*step)
		}
		checkWrong(t, deepBytes(kind, api.MaxBytes/4), api.ErrCode, 5+64*step)
		for many := range 70 {
			checkDecode(t, deepBytes(kind, many))
		}
	}
	// Whatever it is that stands there.
	for other := range 256 {
		b := append(slices.Clone(deepBytes(api.FNot, 64)[:69]), byte(other))
		checkWrong(t, b, api.ErrCode, 69)
	}
	// An And without kids may stand deeper than nothing: Check refuses it.
	b := slices.Concat(raw("52 50 01 01 01"), bytes.Repeat([]byte{2}, 63), raw("00 00 01 01"))
	checkWrong(t, b, api.ErrCode, 0)
	// Depth is each part's own, not how many there were.
	wide := unused(test(and(around(api.FNot, 62, have("a")), around(api.FOr, 62, have("b")), have("c"))))
	checkProgram(t, wide)
}

// checkRefused: a program that is read, but that Check refuses.
func checkRefused(t *testing.T, p api.Program, want api.Errno) {
	t.Helper()
	b := written(p).b
	checkWrong(t, b, want, 0)
	checkDecode(t, b)
	if len(b) < api.MaxBytes {
		checkWrong(t, append(b, 0), api.ErrMore, len(b))
	}
	checkWrong(t, b[:len(b)-1], api.ErrShort, len(b)-1)
}

// What was read but is refused: Check's error, at 0, wherever it is; faults among the bytes come ahead.
func TestDecodeRefused(t *testing.T) {
	checkRefused(t, program(), api.ErrStack)
	checkRefused(t, program(all, all), api.ErrStack)
	checkRefused(t, program(all, join, all), api.ErrStack)
	checkRefused(t, with(program(), getA, testX), api.ErrStack)
	checkRefused(t, program(all, fetch(0)), api.ErrCode)
	checkRefused(t, with(program(all, tested(0)), getA), api.ErrCode)
	checkRefused(t, with(program(all, tested(1)), testX), api.ErrCode)
	checkRefused(t, program(make([]api.Instr, api.MaxCode+1)...), api.ErrLong)
	checkRefused(t, with(program(make([]api.Instr, api.MaxCode+1)...), test(and())), api.ErrLong)
	checkRefused(t, program(make([]api.Instr, api.MaxCode)...), api.ErrStack)
	refused := 0
	for _, c := range wrongConsts() {
		isWritten := c.Fetch.Kind >= 0 && c.Fetch.Kind <= 4 && c.Fetch.Type >= 0 && c.Fetch.Type < 1<<31
		if c.Test {
			isWritten = sameConst(api.Const{Fetch: c.Fetch}, api.Const{}) && isWrittenFilter(c.Filter, 1)
		} else if !sameFilter(c.Filter, api.Filter{}) {
			isWritten = false
		}
		if isWritten && len(written(unused(c)).b) <= api.MaxBytes {
			refused++
			checkRefused(t, unused(c), api.ErrCode)
			checkRefused(t, unused(getA, c, testX), api.ErrCode)
		}
	}
	if refused < 40 {
		t.Errorf("only %d constants are read and refused", refused)
	}
}

// isWrittenFilter tells whether a filter that may not be can be written all the same, with nothing of it left out.
func isWrittenFilter(f api.Filter, level int) bool {
	if f.Kind < 0 || f.Kind > 9 || level > 64 || f.Kind == api.FNot && len(f.Kids) != 1 {
		return false
	}
	if f.Kind > api.FNot && len(f.Kids) > 0 || f.Kind == api.FHave && f.Value != "" {
		return false
	}
	for _, kid := range f.Kids {
		if !isWrittenFilter(kid, level+1) {
			return false
		}
	}
	return true
}

// Bytes of MaxBytes, and one more: that is told ahead of all else.
func TestDecodeMaxBytes(t *testing.T) {
	b := written(sized(api.MaxBytes)).b
	checkTaken(t, b, sized(api.MaxBytes))
	checkWrong(t, append(b, 0), api.ErrLong, 0)
	checkWrong(t, written(sized(api.MaxBytes+1)).b, api.ErrLong, 0)
	b = written(sized(api.MaxBytes - 1)).b
	checkWrong(t, append(b, 1), api.ErrMore, api.MaxBytes-1)
	for _, one := range []byte{0, 1, 0x52, 0x80, 0xff} {
		checkWrong(t, bytes.Repeat([]byte{one}, api.MaxBytes+1), api.ErrLong, 0)
		checkWrong(t, bytes.Repeat([]byte{one}, 3*api.MaxBytes), api.ErrLong, 0)
	}
	checkWrong(t, make([]byte, api.MaxBytes), api.ErrCode, 0)
	checkWrong(t, append(raw("52 50 01"), make([]byte, api.MaxBytes-3)...), api.ErrMore, 5)
}

// As many of each as there is room for.
func TestDecodeMany(t *testing.T) {
	fill := func(start string, many int, unit, end string) []byte {
		b := binary.AppendUvarint(raw(start), uint64(many))
		return slices.Concat(b, bytes.Repeat(raw(unit), many), raw(end))
	}
	for _, b := range [][]byte{
		fill("52 50 01", 200000, "00 00 00 00 00", "01 01"),
		fill("52 50 01", 300000, "01 07 00", "01 01"),
		fill("52 50 01 01 00 04 00 00", 1000000, "00", "01 01"),
		fill("52 50 01 01 01 04 01 61 00", 500000, "01 61", "00 01 01"),
		fill("52 50 01 01 01 04 01 61 00", 1000000, "00", "00 01 01"),
		fill("52 50 01 01 01 00", api.MaxNodes-1, "07 01 61", "01 01"),
		fill("52 50 01 01 01 00", api.MaxNodes, "07 01 61", "01 01"),
		fill("52 50 01 01 01 01", 500000, "07 00", "01 01"),
		fill("52 50 01 00", 1000000, "01", ""),
		fill("52 50 01 00", api.MaxCode, "01", ""),
		fill("52 50 01 01 01 07 01 61", 100000, "01 03 00 04", ""),
	} {
		checkDecode(t, b)
	}
}

// How many there are is not believed: no room is set aside for what is not there.
func TestDecodeRoom(t *testing.T) {
	const most = "FF FF FF FF 07"
	for _, s := range []string{most, "01 00 01 00 " + most, "01 00 04 00 00 " + most, "01 01 00 " + most, "01 01 01 " + most, "01 01 04 00 00 " + most, "01 01 03 " + most, "00 " + most} {
		b := raw("52 50 01 " + s)
		var before, after runtime.MemStats
		runtime.ReadMemStats(&before)
		checkWrong(t, b, api.ErrShort, len(b))
		runtime.ReadMemStats(&after)
		if room := after.TotalAlloc - before.TotalAlloc; room > 1<<20 {
			t.Errorf("Decode(% x) took %d bytes", b, room)
		}
	}
}

// All rows of up to seven bytes of some behind the head.
func TestDecodeShortBytes(t *testing.T) {
	some := raw("00 01 02 03 05 07 80")
	counts := map[string]int{}
	var try func(b []byte, more int)
	try = func(b []byte, more int) {
		want, e, at := modelDecode(b)
		p, wrong, where := code.Decode(b)
		if wrong != e || where != at || !isSame(p, want) {
			t.Errorf("Decode(% x) is %s, %v at %d; want %s, %v at %d", b, shown(p), wrong, where, shown(want), e, at)
		}
		counts[fmt.Sprint(e)]++
		if more == 0 || t.Failed() {
			return
		}
		for _, one := range some {
			try(append(b, one), more-1)
		}
	}
	try(raw("52 50 01"), 7)
	for _, e := range []api.Errno{api.OK, api.ErrCode, api.ErrShort, api.ErrMore, api.ErrStack} {
		if counts[fmt.Sprint(e)] < 10 {
			t.Errorf("%d are %v", counts[fmt.Sprint(e)], e)
		}
	}
}
