package packet_test

import (
	"math"
	"slices"
	"testing"

	"roster/api"
	"roster/packet"
)

// The chapter's examples.
func TestDecodeExamples(t *testing.T) {
	for s, want := range map[string]api.Filter{
		"A3 07 04 02 63 6E 04 01 61":             equal("cn", "a"),
		"87 02 63 6E":                            have("cn"),
		"A2 04 87 02 63 6E":                      not(have("cn")),
		"A4 0B 04 02 63 6E 30 05 80 01 61 82 00": part("cn", "a", ""),
		"A4 08 04 02 63 6E 30 02 81 00":          have("cn"),
		"A9 0A 81 02 63 6E 83 01 61 84 01 FF":    ruleDn("", "cn", "a"),
	} {
		checkTaken(t, raw(s), want)
	}
	for _, c := range []struct {
		b    string
		want api.Errno
		at   int
	}{
		{"A0 00", api.ErrFilter, 0}, {"A2 00", api.ErrFilter, 0}, {"A4 06 04 02 63 6E 30 00", api.ErrFilter, 6},
		{"A2 08 87 02 63 6E 87 02 63 6E", api.ErrMore, 6},
		{"04 01 61", api.ErrTag, 0}, {"87 02 63", api.ErrShort, 0}, {"", api.ErrShort, 0},
		{"87 02 63 6E 00", api.ErrMore, 4}, {"87 01 3B", api.ErrFilter, 0}, {"A9 03 83 01 61", api.ErrFilter, 0},
	} {
		checkWrong(t, raw(c.b), c.want, c.at)
	}
}

// Each kind, as the form has it, with lengths that are longer than they need be.
func TestDecodeKinds(t *testing.T) {
	cn := have("cn")
	for s, want := range map[string]api.Filter{
		"A3 05 04 01 61 04 00":                                  equal("a", ""),
		"A5 07 04 02 63 6E 04 01 61":                            item(api.FMore, "cn", "a"),
		"A6 07 04 02 63 6E 04 01 61":                            item(api.FLess, "cn", "a"),
		"A8 07 04 02 63 6E 04 01 61":                            item(api.FLike, "cn", "a"),
		"A3 0A 04 05 61 3B 78 3B 2D 04 01 00":                   equal("a;x;-", "\x00"),
		"A3 08 04 03 31 2E 32 04 01 FF":                         equal("1.2", "\xff"),
		"A0 04 87 02 63 6E":                                     and(cn),
		"A1 08 87 02 63 6E 87 02 63 6E":                         or(cn, cn),
		"A2 06 A2 04 87 02 63 6E":                               not(not(cn)),
		"A0 0E A1 04 87 02 63 6E A0 06 A2 04 87 02 63 6E":       and(or(cn), and(not(cn))),
		"87 81 02 63 6E":                                        cn,
		"87 82 00 02 63 6E":                                     cn,
		"A2 84 00 00 00 07 87 83 00 00 02 63 6E":                not(cn),
		"87 8A 00 00 00 00 00 00 00 00 00 02 63 6E":             cn,
		"A4 81 0C 04 81 02 63 6E 30 81 04 80 81 01 61":          part("cn", "a", ""),
		"A9 83 00 00 0A 82 81 02 63 6E 83 82 00 01 61":          rule("cn", "", "a"),
		"A9 83 00 00 0D 82 81 02 63 6E 83 82 00 01 61 84 01 FF": ruleDn("cn", "", "a"),
	} {
		checkTaken(t, raw(s), want)
		checkDecode(t, raw(s))
	}
}

// pieces is the item of a part with a row of pieces.
func pieces(row string) []byte { return made(0xa4, said(0x04, "cn"), made(0x30, raw(row))) }

// Pieces in their order; those without bytes say nothing, but stand in the order.
func TestDecodePieces(t *testing.T) {
	const first = 8 // where the first piece begins
	for row, want := range map[string]api.Filter{
		"80 01 61":                            part("cn", "a", ""),
		"81 01 61":                            part("cn", "", "", "a"),
		"82 01 61":                            part("cn", "", "a"),
		"80 01 61 82 01 62":                   part("cn", "a", "b"),
		"80 01 61 81 01 62 81 01 63":          part("cn", "a", "", "b", "c"),
		"80 01 61 81 01 62 81 01 63 82 01 64": part("cn", "a", "d", "b", "c"),
		"81 01 61 81 01 61 81 01 61 82 01 61": part("cn", "", "a", "a", "a", "a"),
		"80 01 00 81 01 FF 82 01 2A":          part("cn", "\x00", "*", "\xff"),
		"80 00":                               have("cn"), "81 00": have("cn"), "82 00": have("cn"), "80 00 81 00": have("cn"), "80 00 82 00": have("cn"), "81 00 81 00 81 00": have("cn"), "81 00 82 00": have("cn"), "80 00 81 00 81 00 82 00": have("cn"),
		"80 00 81 01 61 82 00":          part("cn", "", "", "a"),
		"80 01 61 81 00 82 00":          part("cn", "a", ""),
		"80 00 81 00 82 01 61":          part("cn", "", "a"),
		"81 00 81 01 61 81 00 81 01 62": part("cn", "", "", "a", "b"),
		"80 01 61 81 00 81 00 82 01 62": part("cn", "a", "b"),
	} {
		checkTaken(t, pieces(row), want)
		checkDecode(t, pieces(row))
	}
	for _, c := range []struct {
		row  string
		want api.Errno
		at   int
	}{
		{"", api.ErrFilter, 6 - first},
		{"81 01 61 80 01 61", api.ErrTag, 3}, {"81 00 80 00", api.ErrTag, 2}, {"80 00 81 00 80 00", api.ErrTag, 4}, // Start behind a middle
		{"80 01 61 80 01 62", api.ErrTag, 3}, {"80 00 80 01 62", api.ErrTag, 2}, {"80 00 80 00", api.ErrTag, 2}, // two Starts
		{"82 01 61 82 01 61", api.ErrMore, 3}, {"82 00 82 00", api.ErrMore, 2}, {"80 00 82 00 82 01 61", api.ErrMore, 4}, // two Ends
		{"82 01 61 81 01 61", api.ErrMore, 3}, {"82 00 81 00", api.ErrMore, 2}, {"80 00 82 00 81 00", api.ErrMore, 4}, // End ahead of a middle
		{"82 00 80 00", api.ErrMore, 2}, {"82 00 04 00", api.ErrMore, 2}, {"82 00 1F 00", api.ErrTag, 2}, {"82 00 81", api.ErrShort, 2}, {"82 00 00 80", api.ErrForm, 2},
		{"83 01 61", api.ErrTag, 0}, {"04 01 61", api.ErrTag, 0}, {"A0 03 80 01 61", api.ErrTag, 0}, {"00 01 61", api.ErrTag, 0}, {"40 01 61", api.ErrTag, 0}, {"C1 01 61", api.ErrTag, 0}, {"A1 01 61", api.ErrTag, 0}, {"A2 00", api.ErrTag, 0},
		{"80 00 83 00", api.ErrTag, 2}, {"81 00 83 00", api.ErrTag, 2}, {"80 00 A1 00", api.ErrTag, 2}, {"81 00 A2 00", api.ErrTag, 2},
		{"80", api.ErrShort, 0}, {"80 02 61", api.ErrShort, 0}, {"80 00 81 01", api.ErrShort, 2}, {"81 80", api.ErrForm, 0}, {"81 00 81 FF", api.ErrForm, 2}, {"9F 00", api.ErrTag, 0},
	} {
		checkWrong(t, pieces(c.row), c.want, first+c.at)
		checkDecode(t, pieces(c.row))
	}
}

// Rules with and without Rule, Desc and Dn.
func TestDecodeRules(t *testing.T) {
	for row, want := range map[string]api.Filter{
		"81 01 72 83 01 61":                            rule("", "r", "a"),
		"82 01 64 83 01 61":                            rule("d", "", "a"),
		"81 01 72 82 01 64 83 01 61":                   rule("d", "r", "a"),
		"81 01 72 82 01 64 83 00":                      rule("d", "r", ""),
		"81 01 72 82 01 64 83 01 61 84 01 FF":          ruleDn("d", "r", "a"),
		"81 01 72 82 01 64 83 01 61 84 01 00":          rule("d", "r", "a"),
		"81 01 72 83 01 61 84 01 FF":                   ruleDn("", "r", "a"),
		"82 01 64 83 01 61 84 01 FF":                   ruleDn("d", "", "a"),
		"82 01 64 83 01 61 84 01 00":                   rule("d", "", "a"),
		"81 00 82 01 64 83 01 61":                      rule("d", "", "a"),
		"81 01 72 82 00 83 01 61":                      rule("", "r", "a"),
		"81 01 72 82 00 83 01 61 84 81 01 FF":          ruleDn("", "r", "a"),
		"81 03 31 2E 32 82 04 64 6E 3B 78 83 01 61":    rule("dn;x", "1.2", "a"),
		"81 03 64 6E 78 83 02 64 6E 84 82 00 01 00":    rule("", "dnx", "dn"),
		"82 02 64 6E 83 04 00 FF 80 7F 84 82 00 01 FF": ruleDn("dn", "", "\x00\xff\x80\x7f"),
	} {
		checkTaken(t, made(0xa9, raw(row)), want)
		checkDecode(t, made(0xa9, raw(row)))
	}
	const first = 2 // where the first item in it begins
	for _, c := range []struct {
		row  string
		want api.Errno
		at   int
	}{
		{"", api.ErrFilter, -first}, {"81 01 72", api.ErrFilter, -first}, {"82 01 64", api.ErrFilter, -first}, {"81 01 72 82 01 64", api.ErrFilter, -first}, // no Value
		{"83 01 61", api.ErrFilter, -first}, {"81 00 83 01 61", api.ErrFilter, -first}, {"82 00 83 01 61", api.ErrFilter, -first}, {"81 00 82 00 83 01 61 84 01 FF", api.ErrFilter, -first}, // neither Rule nor Desc
		{"81 02 64 6E 83 00", api.ErrFilter, -first}, {"81 02 44 6E 82 01 64 83 00", api.ErrFilter, -first}, {"81 03 61 3B 78 83 00", api.ErrFilter, -first}, {"81 01 72 82 01 20 83 00", api.ErrFilter, -first}, {"82 02 64 3B 83 00", api.ErrFilter, -first},
		{"82 01 64 81 01 72 83 00", api.ErrTag, 3}, {"81 01 72 81 01 72 83 00", api.ErrTag, 3}, {"82 01 64 82 01 64 83 00", api.ErrTag, 3}, {"83 00 81 01 72", api.ErrTag, 2}, {"83 00 82 01 64", api.ErrTag, 2}, {"83 00 83 00", api.ErrTag, 2},
		{"84 01 FF", api.ErrTag, 0}, {"81 01 72 84 01 FF", api.ErrTag, 3}, {"80 00", api.ErrTag, 0}, {"85 00", api.ErrTag, 0}, {"82 01 64 83 00 85 00", api.ErrTag, 5}, {"04 01 64", api.ErrTag, 0}, {"A1 01 72", api.ErrTag, 0}, {"A3 00", api.ErrTag, 0}, {"43 00", api.ErrTag, 0}, {"03 00", api.ErrTag, 0}, {"C3 00", api.ErrTag, 0}, {"82 01 64 83 00 A4 01 FF", api.ErrTag, 5}, {"82 01 64 83 00 01 01 FF", api.ErrTag, 5},
		{"82 01 64 83 00 84 00", api.ErrBool, 5}, {"82 01 64 83 00 84 01 01", api.ErrBool, 5}, {"82 01 64 83 00 84 01 FE", api.ErrBool, 5}, {"82 01 64 83 00 84 01 7F", api.ErrBool, 5}, {"82 01 64 83 00 84 01 80", api.ErrBool, 5}, {"82 01 64 83 00 84 02 FF FF", api.ErrBool, 5}, {"82 01 64 83 00 84 02 00 00", api.ErrBool, 5}, {"82 01 64 83 00 84 02 00 FF", api.ErrBool, 5},
		{"82 01 64 83 00 84 01 FF 84 01 FF", api.ErrMore, 8}, {"82 01 64 83 00 84 01 00 81 00", api.ErrMore, 8}, {"82 01 64 83 00 84 01 FF 00 00", api.ErrMore, 8}, {"82 01 64 83 00 84 01 FF 00", api.ErrShort, 8}, {"82 01 64 83 00 84 01 FF 1F", api.ErrTag, 8}, {"82 01 64 83 00 84 01 FF 00 80", api.ErrForm, 8},
		{"81", api.ErrShort, 0}, {"82 05 64", api.ErrShort, 0}, {"81 01 72 82", api.ErrShort, 3}, {"82 01 64 83 01", api.ErrShort, 3}, {"82 01 64 83 00 84", api.ErrShort, 5}, {"82 01 64 83 00 84 01", api.ErrShort, 5}, {"82 01 64 83 FF", api.ErrForm, 3}, {"81 80", api.ErrForm, 0}, {"9F 01 00", api.ErrTag, 0},
	} {
		checkWrong(t, made(0xa9, raw(c.row)), c.want, first+c.at)
		checkDecode(t, made(0xa9, raw(c.row)))
	}
	for b := range 256 {
		row := slices.Concat(said(0x82, "d"), said(0x83, ""), made(0x84, []byte{byte(b)}))
		switch b {
		case 0xff:
			checkTaken(t, made(0xa9, row), ruleDn("d", "", ""))
		case 0x00:
			checkTaken(t, made(0xa9, row), rule("d", "", ""))
		default:
			checkWrong(t, made(0xa9, row), api.ErrBool, 7)
		}
	}
}

// Each tag where a filter must stand, alone and in another one, and where a text must.
func TestDecodeTags(t *testing.T) {
	cn := made(0x87, []byte("cn"))
	for n := range 256 {
		tag := byte(n)
		_, known := kinds[tag]
		body := modelEncode(equal("cn", "a"))[2:]
		switch tag {
		case 0xa0, 0xa1, 0xa2:
			body = cn
		case 0x87:
			body = []byte("cn")
		case 0xa4:
			body = pieces("80 01 61")[2:]
		case 0xa9:
			body = slices.Concat(said(0x81, "r"), said(0x83, ""))
		}
		b := made(tag, body)
		for ahead, whole := range map[int][]byte{0: b, 2: made(0xa2, b), 6: made(0xa0, cn, b), 8: made(0xa2, made(0xa1, cn, b, cn))} {
			if known {
				if e := checkDecode(t, whole); e != api.OK {
					t.Errorf("tag %02x: %v", tag, e)
				}
			} else {
				checkWrong(t, whole, api.ErrTag, ahead)
			}
		}
		for _, around := range []byte{0xa3, 0xa5, 0xa6, 0xa8} {
			first, second := made(around, made(tag, []byte("cn")), said(0x04, "")), made(around, said(0x04, "cn"), made(tag))
			if tag == 0x04 {
				checkDecode(t, first)
				checkDecode(t, second)
			} else {
				checkWrong(t, first, api.ErrTag, 2)
				checkWrong(t, second, api.ErrTag, 6)
			}
		}
		if tag != 0x04 {
			checkWrong(t, made(0xa4, made(tag, []byte("cn")), made(0x30, said(0x80, "a"))), api.ErrTag, 2)
		}
		if tag != 0x30 {
			checkWrong(t, made(0xa4, said(0x04, "cn"), made(tag, said(0x80, "a"))), api.ErrTag, 6)
		}
	}
}

// A body that has ended where one more item must come is told at the item around it.
func TestDecodeEnded(t *testing.T) {
	cn := made(0x87, []byte("cn"))
	for _, tag := range []byte{0xa0, 0xa1, 0xa2, 0xa3, 0xa4, 0xa5, 0xa6, 0xa8, 0xa9} {
		checkWrong(t, made(tag), api.ErrFilter, 0)
		checkWrong(t, made(0xa0, cn, made(0xa2, made(tag))), api.ErrFilter, 8)
		checkWrong(t, made(0xa0, made(tag), made(0xa2)), api.ErrFilter, 2)
		checkWrong(t, slices.Concat(made(tag), cn), api.ErrFilter, 0)
	}
	for _, tag := range []byte{0xa3, 0xa4, 0xa5, 0xa6, 0xa8} {
		checkWrong(t, made(tag, said(0x04, "cn")), api.ErrFilter, 0)
		checkWrong(t, made(0xa1, cn, cn, made(tag, said(0x04, "cn")), cn), api.ErrFilter, 10)
	}
	checkWrong(t, made(0xa1, cn, made(0xa4, said(0x04, "cn"), made(0x30))), api.ErrFilter, 12)
	checkWrong(t, made(0xa4, said(0x04, "cn"), made(0x30), made(0x30)), api.ErrFilter, 6)
}

// Items behind the last one that may stand there.
func TestDecodeMore(t *testing.T) {
	cn, two := made(0x87, []byte("cn")), slices.Concat(said(0x04, "cn"), said(0x04, ""))
	for n := range 256 {
		tag := byte(n)
		want := api.ErrMore
		if tag&0x1f == 0x1f {
			want = api.ErrTag // the header's own
		}
		checkWrong(t, made(0xa2, cn, made(tag)), want, 6)
		checkWrong(t, made(0xa2, cn, made(tag, cn)), want, 6)
		for _, around := range []byte{0xa3, 0xa5, 0xa6, 0xa8} {
			checkWrong(t, made(around, two, made(tag)), want, 8)
		}
		checkWrong(t, made(0xa4, said(0x04, "cn"), made(0x30, said(0x81, "a")), made(tag)), want, 11)
		checkWrong(t, made(0xa4, said(0x04, "cn"), made(0x30, said(0x82, "a"), made(tag))), want, 11)
		checkWrong(t, made(0xa9, said(0x81, "r"), said(0x83, ""), said(0x84, "\x00"), made(tag)), want, 10)
		// Behind the whole filter no header is looked at.
		checkWrong(t, slices.Concat(cn, []byte{tag}), api.ErrMore, 4)
		checkWrong(t, slices.Concat(cn, made(tag)), api.ErrMore, 4)
	}
	for _, broken := range []struct {
		b    string
		want api.Errno
	}{{"87", api.ErrShort}, {"87 01", api.ErrShort}, {"87 80", api.ErrForm}, {"87 FF", api.ErrForm}, {"87 81", api.ErrShort}, {"00", api.ErrShort}} {
		checkWrong(t, made(0xa2, cn, raw(broken.b)), broken.want, 6)
		checkWrong(t, made(0xa3, two, raw(broken.b)), broken.want, 8)
		checkWrong(t, made(0xa4, said(0x04, "cn"), made(0x30, said(0x82, "a")), raw(broken.b)), broken.want, 11)
	}
}

// Broken headers, cut-off items: wherever an item is to begin, its header's error is told there.
func TestDecodeHeaders(t *testing.T) {
	for _, f := range []api.Filter{equal("cn", "a"), not(and(have("cn"), part("cn", "a", "b", "c"))), or(ruleDn("d", "r", "v"), not(have("cn")))} {
		b := modelEncode(f)
		for size := range len(b) {
			checkWrong(t, b[:size], api.ErrShort, 0)
		}
		for at := range b {
			for v := range 256 {
				broken := slices.Clone(b)
				broken[at] = byte(v)
				checkDecode(t, broken)
				checkDecode(t, slices.Concat(b[:at], []byte{byte(v)}, b[at:]))
			}
			checkDecode(t, slices.Concat(b[:at], b[at+1:]))
		}
	}
	cn := made(0x87, []byte("cn"))
	for s, want := range map[string]api.Errno{"1F": api.ErrTag, "1F 80": api.ErrTag, "BF 02 63 6E": api.ErrTag, "87": api.ErrShort, "87 80": api.ErrForm, "87 FF": api.ErrForm, "87 03 63 6E": api.ErrShort, "87 81": api.ErrShort, "87 89 01 00 00 00 00 00 00 00 00": api.ErrShort, "05 05": api.ErrShort, "05 80": api.ErrForm} {
		checkWrong(t, raw(s), want, 0)
		checkWrong(t, made(0xa2, raw(s)), want, 2)
		checkWrong(t, made(0xa0, cn, raw(s)), want, 6)
		checkWrong(t, made(0xa0, cn, made(0xa5, said(0x04, "cn"), raw(s))), want, 12)
		checkWrong(t, made(0xa4, raw(s)), want, 2)
		checkWrong(t, made(0xa4, said(0x04, "cn"), made(0x30, raw(s))), want, 8)
		checkWrong(t, made(0xa9, said(0x81, "r"), raw(s)), want, 5)
	}
}

// Of several faults the first by the place at which the reading meets it, and at one item by the chapter's order.
func TestDecodeWhichFault(t *testing.T) {
	long := filled("a", api.MaxText+1)
	cn, bad := made(0x87, []byte("cn")), made(0x87, []byte("c n"))
	for _, c := range []struct {
		b    []byte
		want api.Errno
		at   int
	}{
		// What the whole item says is looked at behind all that stands in it.
		{made(0xa3, said(0x04, "c n"), said(0x05, "")), api.ErrTag, 7},
		{made(0xa3, said(0x04, "c n"), []byte{0x04}), api.ErrShort, 7},
		{made(0xa3, said(0x04, "c n")), api.ErrFilter, 0},
		{made(0xa3, said(0x04, "c n"), said(0x04, ""), said(0x04, "")), api.ErrMore, 9},
		{made(0xa3, said(0x04, "c n"), said(0x04, long)), api.ErrLong, 10},
		{made(0xa4, said(0x04, "c n"), made(0x30)), api.ErrFilter, 7},
		{made(0xa4, said(0x04, "c n"), made(0x30, said(0x83, ""))), api.ErrTag, 9},
		{made(0xa4, said(0x04, "c n"), made(0x30, said(0x80, "")), cn), api.ErrMore, 11},
		{made(0xa4, said(0x04, "c n"), made(0x30, said(0x80, ""))), api.ErrFilter, 0},
		{made(0xa9, said(0x83, ""), said(0x84, "x")), api.ErrBool, 4},
		{made(0xa9, said(0x81, "dn"), said(0x83, ""), said(0x84, "x")), api.ErrBool, 8},
		{made(0xa9, said(0x81, "dn"), said(0x83, ""), said(0x84, "\x00"), cn), api.ErrMore, 11},
		{made(0xa9, said(0x81, "dn"), said(0x83, long)), api.ErrLong, 9},
		// A text that is too long is told ahead of what stands behind it.
		{made(0xa3, said(0x04, long), said(0x05, "")), api.ErrLong, 5},
		{made(0xa3, said(0x04, long)), api.ErrLong, 5},
		{made(0xa3, said(0x04, long), []byte{0x1f}), api.ErrLong, 5},
		{made(0xa3, said(0x04, " "+long), said(0x04, "")), api.ErrLong, 5},
		{made(0x87, []byte(" "+long)), api.ErrLong, 0},
		// An 84 that is none is told ahead of what stands behind it; its length does not count.
		{made(0xa9, said(0x81, "r"), said(0x83, ""), said(0x84, "x"), cn), api.ErrBool, 7},
		{made(0xa9, said(0x81, "r"), said(0x83, ""), said(0x84, long)), api.ErrBool, 10},
		// Kid by kid, each whole ahead of the next.
		{made(0xa0, bad, made(0x04)), api.ErrFilter, 2},
		{made(0xa0, cn, bad, made(0x04)), api.ErrFilter, 6},
		{made(0xa0, made(0x04), bad), api.ErrTag, 2},
		{made(0xa0, made(0xa2), bad), api.ErrFilter, 2},
		{made(0xa2, bad, cn), api.ErrFilter, 2},
		{made(0xa2, made(0x04), cn), api.ErrTag, 2},
		{made(0xa2, made(0xa2, cn, cn), cn), api.ErrMore, 8},
		{slices.Concat(made(0xa2, bad), cn), api.ErrFilter, 2},
		{slices.Concat(made(0xa2, cn, cn), cn), api.ErrMore, 6},
		{slices.Concat(made(0xa2, cn), []byte{0x1f}), api.ErrMore, 6},
		// A header is told ahead of the tag.
		{raw("A0 02 04 05"), api.ErrShort, 2}, {raw("A0 02 04 80"), api.ErrForm, 2}, {raw("A0 02 1F 80"), api.ErrTag, 2}, {raw("04 05"), api.ErrShort, 0}, {raw("04 FF"), api.ErrForm, 0},
		{raw("A3 02 05 80"), api.ErrForm, 2}, {raw("A3 02 05 01"), api.ErrShort, 2},
	} {
		checkWrong(t, c.b, c.want, c.at)
		checkDecode(t, c.b)
	}
}

func checkTake(t *testing.T, b []byte, at, end int) {
	t.Helper()
	want, wantNext, wrong := modelTake(b, at, end)
	f, next, e, where := packet.Take(b, at, end)
	if !isSame(f, want) || next != wantNext || e != wrong.code || where != wrong.at {
		t.Errorf("Take(%s, %d, %d) is %s, %d, %v at %d; want %s, %d, %v at %d", brief(b), at, end, shown(f), next, e, where, shown(want), wantNext, wrong.code, wrong.at)
	}
}

// Places and ends below 0, beyond the bytes, the end ahead of the place.
func TestTakePlaces(t *testing.T) {
	places := []int{math.MinInt, math.MinInt + 1, -1 << 40, -api.MaxBytes - 1, -2, -1, api.MaxBytes, api.MaxBytes + 1, 1 << 40, math.MaxInt - 1, math.MaxInt}
	for _, b := range [][]byte{nil, {}, raw("87"), raw("87 02 63 6E"), raw("00 87 02 63 6E 00"), raw("A2 04 87 02 63 6E A0 04 87 02 63 6E"), raw("FF A9 0A 81 02 63 6E 83 01 61 84 01 FF 05")} {
		all := slices.Clone(places)
		for at := range len(b) + 3 {
			all = append(all, at)
		}
		for _, at := range all {
			for _, end := range all {
				checkTake(t, b, at, end)
			}
		}
	}
	for _, c := range []struct{ at, end int }{{-1, 4}, {0, 5}, {3, 2}, {5, 5}, {-1, -1}, {math.MaxInt, math.MinInt}, {math.MinInt, math.MaxInt}} {
		if f, next, e, where := packet.Take(raw("87 02 63 6E"), c.at, c.end); !isSame(f, api.Filter{}) || next != 0 || e != api.ErrArg || where != c.at {
			t.Errorf("Take(.., %d, %d) is %s, %d, %v at %d", c.at, c.end, shown(f), next, e, where)
		}
	}
}

// Take leaves what stands behind the filter alone, and answers places of all the bytes.
func TestTakeAmongOthers(t *testing.T) {
	b := raw("1F FF 87 02 63 6E A2 04 87 02 63 6E 1F 80 A2 04 87 02 63")
	for _, c := range []struct {
		at, end, next int
		want          api.Filter
	}{{2, 6, 6, have("cn")}, {2, 7, 6, have("cn")}, {2, len(b), 6, have("cn")}, {6, 12, 12, not(have("cn"))}, {6, len(b), 12, not(have("cn"))}, {8, 12, 12, have("cn")}} {
		if f, next, e, where := packet.Take(b, c.at, c.end); !isSame(f, c.want) || next != c.next || e != api.OK || where != 0 {
			t.Errorf("Take(.., %d, %d) is %s, %d, %v at %d", c.at, c.end, shown(f), next, e, where)
		}
	}
	for _, c := range []struct {
		at, end, where int
		want           api.Errno
	}{{0, 6, 0, api.ErrTag}, {1, 6, 1, api.ErrTag}, {2, 2, 2, api.ErrShort}, {2, 5, 2, api.ErrShort}, {3, 6, 3, api.ErrShort}, {6, 11, 6, api.ErrShort}, {len(b), len(b), len(b), api.ErrShort}, {14, len(b), 14, api.ErrShort}} {
		if f, next, e, where := packet.Take(b, c.at, c.end); !isSame(f, api.Filter{}) || next != 0 || e != c.want || where != c.where {
			t.Errorf("Take(.., %d, %d) is %s, %d, %v at %d; want %v at %d", c.at, c.end, shown(f), next, e, where, c.want, c.where)
		}
	}
	inner := slices.Concat(raw("05 00"), made(0xa0, made(0x87, []byte("cn")), made(0x87, []byte(";"))), raw("05 00"))
	if _, _, e, where := packet.Take(inner, 2, len(inner)); e != api.ErrFilter || where != 8 {
		t.Errorf("%v at %d", e, where)
	}
}
