package packet_test

import (
	"bytes"
	"slices"
	"testing"

	"roster/api"
	"roster/filter"
	"roster/packet"
)

// Texts of MaxText bytes, and of one more, in each place that has one.
func TestDecodeMaxText(t *testing.T) {
	word, more := filled("a", api.MaxText), filled("a", api.MaxText+1)
	value, moreValue := filled("\xff", api.MaxText), filled("\x00", api.MaxText+1)
	cn := said(0x04, "cn")
	checkTaken(t, said(0x87, word), have(word))
	checkWrong(t, said(0x87, more), api.ErrLong, 0)
	checkWrong(t, made(0xa2, said(0x87, more)), api.ErrLong, 5)
	for tag, kind := range map[byte]int8{0xa3: api.FEqual, 0xa5: api.FMore, 0xa6: api.FLess, 0xa8: api.FLike} {
		checkTaken(t, made(tag, said(0x04, word), said(0x04, value)), item(kind, word, value))
		checkWrong(t, made(tag, said(0x04, more), said(0x04, value)), api.ErrLong, 5)
		checkWrong(t, made(tag, cn, said(0x04, moreValue)), api.ErrLong, 9)
		checkWrong(t, made(tag, said(0x04, more), said(0x04, moreValue)), api.ErrLong, 5)
	}
	start, middle, end := said(0x80, value), said(0x81, value), said(0x82, value)
	checkTaken(t, made(0xa4, said(0x04, word), made(0x30, start, middle, middle, end)), part(word, value, value, value, value))
	checkWrong(t, made(0xa4, said(0x04, more), made(0x30, start)), api.ErrLong, 5)
	checkWrong(t, made(0xa4, cn, made(0x30, said(0x80, moreValue))), api.ErrLong, 14)
	checkWrong(t, made(0xa4, cn, made(0x30, said(0x81, moreValue))), api.ErrLong, 14)
	checkWrong(t, made(0xa4, cn, made(0x30, said(0x82, moreValue))), api.ErrLong, 14)
	checkWrong(t, made(0xa4, cn, made(0x30, start, said(0x81, ""), said(0x81, moreValue), end)), api.ErrLong, 14+len(start)+2)
	checkWrong(t, made(0xa4, cn, made(0x30, start, middle, said(0x82, moreValue), end)), api.ErrLong, 14+len(start)+len(middle))
	checkTaken(t, made(0xa9, said(0x81, word), said(0x82, word), said(0x83, value), said(0x84, "\xff")), ruleDn(word, word, value))
	checkWrong(t, made(0xa9, said(0x81, more), said(0x83, "")), api.ErrLong, 5)
	checkWrong(t, made(0xa9, said(0x82, more), said(0x83, "")), api.ErrLong, 5)
	checkWrong(t, made(0xa9, said(0x81, "r"), said(0x82, more), said(0x83, "")), api.ErrLong, 8)
	checkWrong(t, made(0xa9, said(0x81, "r"), said(0x83, moreValue), said(0x84, "\xff")), api.ErrLong, 8)
	for _, f := range []api.Filter{have(word), part(word, value, value, value), ruleDn(word, word, value), equal(word, value)} {
		if b, e := packet.Encode(f); e != api.OK || !bytes.Equal(b, modelEncode(f)) {
			t.Errorf("Encode(%s) is %s, %v", shown(f), brief(b), e)
		}
	}
}

// A depth of MaxDepth, and one more.
func TestDecodeMaxDepth(t *testing.T) {
	cn, a := have("cn"), made(0x87, []byte("cn"))
	equals, parts := modelEncode(equal("cn", "a")), modelEncode(part("cn", "a", ""))
	for tag, kind := range map[byte]int8{0xa0: api.FAnd, 0xa1: api.FOr, 0xa2: api.FNot} {
		for many := range api.MaxDepth {
			checkTaken(t, wrapped(tag, many, a), around(kind, many, cn))
			checkDecode(t, wrapped(tag, many, parts))
		}
		// The item that is too deep, whatever it is; but its header's error counts ahead.
		for _, deep := range [][]byte{a, equals, parts, made(0xa0), made(0xa2), made(0xa2, a), made(0x04), made(0x30, a), said(0x87, "c n"), wrapped(0xa2, 70, a)} {
			b := wrapped(tag, api.MaxDepth, deep)
			checkWrong(t, b, api.ErrDeep, len(b)-len(deep))
			checkDecode(t, b)
		}
		for s, want := range map[string]api.Errno{"1F": api.ErrTag, "87": api.ErrShort, "87 80": api.ErrForm, "A2 05": api.ErrShort, "04": api.ErrShort} {
			b := wrapped(tag, api.MaxDepth, raw(s))
			checkWrong(t, b, want, len(b)-len(raw(s)))
		}
		// MaxDepth parts, the last without a kid.
		b := wrapped(tag, api.MaxDepth, nil)
		checkWrong(t, b, api.ErrFilter, len(b)-2)
		// A kid that comes late is as deep as one that comes early.
		deep := wrapped(tag, api.MaxDepth-2, a)
		checkTaken(t, made(0xa1, a, deep, deep), or(cn, around(kind, api.MaxDepth-2, cn), around(kind, api.MaxDepth-2, cn)))
		b = made(0xa1, a, deep, made(tag, deep))
		checkWrong(t, b, api.ErrDeep, len(b)-len(a))
		checkDecode(t, b)
		// What stands in the deepest part is no part.
		b = wrapped(tag, api.MaxDepth-1, made(0xa3, said(0x05, "")))
		checkWrong(t, b, api.ErrTag, len(b)-2)
	}
	// Behind a Not's kid stands no part: it is one too many, not one too deep.
	b := wrapped(0xa2, api.MaxDepth-1, slices.Concat(a, a))
	checkWrong(t, b, api.ErrMore, len(b)-len(a))
}

// rows is so many items b, one behind the other.
func rows(b []byte, many int) []byte { return bytes.Repeat(b, many) }

// MaxNodes parts, and one more, Nots not counted.
func TestDecodeMaxNodes(t *testing.T) {
	a := said(0x87, "a")
	full := rows(a, api.MaxNodes-1)
	for _, c := range []struct {
		b    []byte
		kids int
	}{
		{made(0xa0, full), api.MaxNodes - 1},
		{made(0xa1, rows(made(0xa2, a), api.MaxNodes-1)), api.MaxNodes - 1},
		{made(0xa1, rows(wrapped(0xa2, 3, a), api.MaxNodes-1)), api.MaxNodes - 1},
		{made(0xa0, rows(made(0xa1, a), api.MaxNodes/2-1), a), api.MaxNodes / 2},
		{made(0xa0, rows(made(0xa1, a, made(0xa2, a)), api.MaxNodes/3)), api.MaxNodes / 3},
		{wrapped(0xa2, 62, made(0xa0, full)), 1},
	} {
		f, e, _ := packet.Decode(c.b)
		wrong, nodes, _ := filter.Check(f)
		if e != api.OK || len(f.Kids) != c.kids || wrong != api.OK || nodes != api.MaxNodes {
			t.Errorf("Decode(%s): %v, %d kids, %v, %d parts", brief(c.b), e, len(f.Kids), wrong, nodes)
		}
	}
	for _, ahead := range [][]byte{full, rows(made(0xa2, a), api.MaxNodes-1), slices.Concat(rows(made(0xa1, a), api.MaxNodes/2-1), a)} {
		const head = 5
		checkMany := func(behind []byte, want api.Errno, deeper int) {
			t.Helper()
			checkWrong(t, made(0xa0, ahead, behind), want, head+len(ahead)+deeper)
		}
		// One part more, whatever it is that is no Not; but its header's error counts ahead.
		for _, behind := range [][]byte{a, slices.Concat(a, a), made(0xa0, a), made(0xa0), made(0xa3), made(0x04), said(0x82, "x"), made(0x22, a), made(0x62, a), made(0xe2, a), said(0x87, "c n"), made(0xa3, said(0x05, "")), said(0x05, "xy")} {
			checkMany(behind, api.ErrLong, 0)
		}
		for s, want := range map[string]api.Errno{"1F 00": api.ErrTag, "87": api.ErrShort, "87 80": api.ErrForm, "87 05 61": api.ErrShort, "04 FF": api.ErrForm} {
			checkMany(raw(s), want, 0)
		}
		// A Not is no part more; what stands in it is.
		checkMany(made(0xa2, a), api.ErrLong, 2)
		checkMany(wrapped(0xa2, 3, a), api.ErrLong, 6)
		checkMany(made(0xa2, made(0x04)), api.ErrLong, 2)
		checkMany(made(0xa2), api.ErrFilter, 0)
		checkMany(wrapped(0xa2, 3, nil), api.ErrFilter, 4)
		// Too deep counts ahead of too many.
		deep := wrapped(0xa2, api.MaxDepth-1, a)
		checkMany(deep, api.ErrDeep, len(deep)-len(a))
		deep = wrapped(0xa2, api.MaxDepth-2, a)
		checkMany(deep, api.ErrLong, len(deep)-len(a))
		// Behind the filter stands no part, nor behind a Not's kid: what stands there is not counted.
		checkWrong(t, slices.Concat(made(0xa0, ahead), a), api.ErrMore, len(made(0xa0, ahead)))
		whole := made(0xa0, ahead)
		checkWrong(t, made(0xa2, whole, a), api.ErrMore, head+len(whole))
		checkDecode(t, made(0xa0, ahead, a))
		checkDecode(t, made(0xa0, ahead, made(0xa2, a)))
		checkDecode(t, made(0xa0, ahead))
	}
}

// full is a filter whose bytes are so many.
func full(size int) api.Filter {
	kid := equal("a", filled("x", 1000))
	kidSize := len(modelEncode(kid))
	size -= 5 // the head of the whole
	f := and()
	for ; size > 2*kidSize; size -= kidSize {
		f.Kids = append(f.Kids, kid)
	}
	f.Kids = append(f.Kids, equal("a", filled("x", size-(kidSize-1000))))
	return f
}

// Bytes of MaxBytes, and of one more.
func TestMaxBytes(t *testing.T) {
	for size := api.MaxBytes - 3; size <= api.MaxBytes+3; size++ {
		f := full(size)
		b := modelEncode(f)
		if wrong, _, _ := filter.Check(f); wrong != api.OK || len(b) != size {
			t.Fatalf("%d bytes, %v", len(b), wrong)
		}
		got, e := packet.Encode(f)
		if size > api.MaxBytes {
			if got != nil || e != api.ErrLong {
				t.Errorf("Encode: %d bytes, %v", len(got), e)
			}
			checkWrong(t, b, api.ErrLong, 0)
			continue
		}
		if !bytes.Equal(got, b) || e != api.OK {
			t.Errorf("Encode: %d bytes, %v", len(got), e)
		}
		checkTaken(t, b, f)
		more := slices.Concat(b, make([]byte, api.MaxBytes-size))
		if size < api.MaxBytes {
			checkWrong(t, more, api.ErrMore, size)
		}
		checkWrong(t, append(more, 0), api.ErrLong, 0)
	}
	// More than MaxBytes is ErrLong, whatever they are.
	for _, one := range []byte{0x00, 0x1f, 0x87, 0xa2, 0xff} {
		checkWrong(t, bytes.Repeat([]byte{one}, api.MaxBytes+1), api.ErrLong, 0)
		checkWrong(t, bytes.Repeat([]byte{one}, 3*api.MaxBytes), api.ErrLong, 0)
	}
	checkWrong(t, bytes.Repeat([]byte{0xff}, api.MaxBytes), api.ErrTag, 0)
	checkWrong(t, bytes.Repeat([]byte{0x00}, api.MaxBytes), api.ErrTag, 0)
}

// What counts for Take is how many bytes it may look at, not how many there are.
func TestTakeMaxBytes(t *testing.T) {
	cn := raw("87 02 63 6E")
	b := slices.Concat(make([]byte, 10), cn, make([]byte, 2*api.MaxBytes))
	for _, c := range []struct {
		at, end, next int
		want          api.Errno
		where         int
	}{
		{10, 14, 14, api.OK, 0}, {10, 10 + api.MaxBytes, 14, api.OK, 0}, {10, 10 + api.MaxBytes + 1, 0, api.ErrLong, 0}, {10, len(b), 0, api.ErrLong, 0}, {8, 8 + api.MaxBytes, 0, api.ErrTag, 8}, {8, 8 + api.MaxBytes + 1, 0, api.ErrLong, 0},
		{0, len(b), 0, api.ErrLong, 0}, {0, len(b) + 1, 0, api.ErrArg, 0}, {10, len(b) + 1, 0, api.ErrArg, 10}, {-1, len(b), 0, api.ErrArg, -1}, {len(b), 10, 0, api.ErrArg, len(b)}, {len(b), len(b), 0, api.ErrShort, len(b)},
	} {
		if f, next, e, where := packet.Take(b, c.at, c.end); next != c.next || e != c.want || where != c.where || (e == api.OK) != isSame(f, have("cn")) {
			t.Errorf("Take(.., %d, %d) is %s, %d, %v at %d; want %d, %v at %d", c.at, c.end, shown(f), next, e, where, c.next, c.want, c.where)
		}
		checkTake(t, b, c.at, c.end)
	}
}

// As many pieces as there is room for.
func TestDecodeManyPieces(t *testing.T) {
	cn := said(0x04, "cn")
	b := made(0xa4, cn, made(0x30, rows(said(0x81, "x"), 300000)))
	f, e, _ := packet.Decode(b)
	if e != api.OK || len(f.Middles) != 300000 || f.Start+f.End != "" {
		t.Errorf("%v, %d middles", e, len(f.Middles))
	}
	checkBack(t, b, f)
	checkTaken(t, made(0xa4, cn, made(0x30, rows(said(0x81, ""), 500000))), have("cn"))
	checkTaken(t, made(0xa4, cn, made(0x30, rows(said(0x81, ""), 500000), said(0x82, "x"))), part("cn", "", "x"))
	b = made(0xa4, cn, made(0x30, rows(said(0x81, ""), 500000), said(0x80, "x")))
	checkWrong(t, b, api.ErrTag, len(b)-3)
}
