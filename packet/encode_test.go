package packet_test

import (
	"bytes"
	"slices"
	"testing"

	"roster/api"
	"roster/filter"
	"roster/packet"
)

func checkEncode(t *testing.T, f api.Filter, want []byte) {
	t.Helper()
	if b, e := packet.Encode(f); !bytes.Equal(b, want) || e != api.OK {
		t.Errorf("Encode(%s) is %s, %v; want %s", shown(f), brief(b), e, brief(want))
	}
}

func checkRefused(t *testing.T, f api.Filter, want api.Errno) {
	t.Helper()
	if b, e := packet.Encode(f); len(b) > 0 || e != want {
		t.Errorf("Encode(%s) is %s, %v; want %v", shown(f), brief(b), e, want)
	}
}

// Each kind, octet by octet.
func TestEncodeKinds(t *testing.T) {
	cn := have("cn")
	for want, f := range map[string]api.Filter{
		"A3 07 04 02 63 6E 04 01 61":                                  equal("cn", "a"),
		"A3 06 04 02 63 6E 04 00":                                     equal("cn", ""),
		"A5 07 04 02 63 6E 04 01 61":                                  item(api.FMore, "cn", "a"),
		"A6 06 04 02 63 6E 04 00":                                     item(api.FLess, "cn", ""),
		"A8 07 04 02 63 6E 04 01 FF":                                  item(api.FLike, "cn", "\xff"),
		"87 02 63 6E":                                                 cn,
		"87 04 43 3B 78 59":                                           have("C;xY"),
		"A0 04 87 02 63 6E":                                           and(cn),
		"A1 08 87 02 63 6E 87 02 63 6E":                               or(cn, cn),
		"A2 04 87 02 63 6E":                                           not(cn),
		"A0 0E A1 04 87 02 63 6E A0 06 A2 04 87 02 63 6E":             and(or(cn), and(not(cn))),
		"A4 09 04 02 63 6E 30 03 80 01 61":                            part("cn", "a", ""),
		"A4 09 04 02 63 6E 30 03 81 01 61":                            part("cn", "", "", "a"),
		"A4 09 04 02 63 6E 30 03 82 01 61":                            part("cn", "", "a"),
		"A4 0C 04 02 63 6E 30 06 80 01 61 82 01 62":                   part("cn", "a", "b"),
		"A4 12 04 02 63 6E 30 0C 80 01 61 81 01 62 81 01 63 82 01 64": part("cn", "a", "d", "b", "c"),
		"A9 05 82 01 64 83 00":                                        rule("d", "", ""),
		"A9 06 81 01 72 83 01 61":                                     rule("", "r", "a"),
		"A9 09 81 01 72 82 01 64 83 01 61":                            rule("d", "r", "a"),
		"A9 0C 81 01 72 82 01 64 83 01 61 84 01 FF":                   ruleDn("d", "r", "a"),
		"A9 0A 81 02 63 6E 83 01 61 84 01 FF":                         ruleDn("", "cn", "a"),
		"A9 08 82 01 64 83 00 84 01 FF":                               ruleDn("d", "", ""),
	} {
		checkEncode(t, f, raw(want))
		checkTaken(t, raw(want), f)
		if model := modelEncode(f); !bytes.Equal(model, raw(want)) {
			t.Errorf("the model writes % x", model)
		}
	}
}

// Lengths in as few octets as can be, of texts and of items that are made of others.
func TestEncodeLengths(t *testing.T) {
	for _, c := range []struct {
		size int
		head string
	}{{0, "00"}, {1, "01"}, {127, "7F"}, {128, "81 80"}, {129, "81 81"}, {255, "81 FF"}, {256, "82 01 00"}, {257, "82 01 01"}, {65535, "82 FF FF"}, {65536, "83 01 00 00"}} {
		value := filled("x", c.size)
		text := slices.Concat([]byte{0x04}, raw(c.head), []byte(value))
		checkEncode(t, equal("a", value), made(0xa3, said(0x04, "a"), text))
		text[0] = 0x83
		checkEncode(t, rule("", "r", value), made(0xa9, said(0x81, "r"), text))
		if c.size == 0 {
			continue
		}
		text[0] = 0x80
		checkEncode(t, part("a", value, ""), made(0xa4, said(0x04, "a"), made(0x30, text)))
		word := filled("w", c.size)
		checkEncode(t, have(word), slices.Concat([]byte{0x87}, raw(c.head), []byte(word)))
	}
	for _, c := range []struct {
		size int // of the kid's value
		head string
	}{{0, "07"}, {120, "7F"}, {121, "81 80"}, {122, "81 81"}, {246, "81 FF"}, {247, "82 01 00"}, {65524, "82 FF FF"}, {65525, "83 01 00 00"}} {
		kid := equal("a", filled("x", c.size))
		b := modelEncode(kid)
		checkEncode(t, and(kid), slices.Concat([]byte{0xa0}, raw(c.head), b))
		checkEncode(t, or(kid), slices.Concat([]byte{0xa1}, raw(c.head), b))
		checkEncode(t, not(kid), slices.Concat([]byte{0xa2}, raw(c.head), b))
		checkEncode(t, not(not(or(kid, kid))), made(0xa2, made(0xa2, made(0xa1, b, b))))
	}
}

// What filter.Check refuses is refused with its code.
func TestEncodeRefused(t *testing.T) {
	for _, f := range refused() {
		want, _, _ := filter.Check(f)
		if want == api.OK {
			t.Fatalf("%s may be", shown(f))
		}
		checkRefused(t, f, want)
	}
	a, long := have("a"), filled("a", api.MaxText+1)
	checkRefused(t, and(), api.ErrFilter)
	checkRefused(t, api.Filter{Kind: 77}, api.ErrFilter)
	checkRefused(t, and(equal("a", long), or()), api.ErrLong)
	checkRefused(t, around(api.FNot, api.MaxDepth, a), api.ErrDeep)
	checkRefused(t, or(slices.Repeat([]api.Filter{a}, api.MaxNodes)...), api.ErrLong)
	// What may not be is told ahead of bytes that are too many.
	wide := slices.Repeat([]api.Filter{equal("a", long[1:])}, 20)
	checkRefused(t, and(append(wide, or())...), api.ErrFilter)
	checkRefused(t, and(append(wide, around(api.FOr, api.MaxDepth, a))...), api.ErrDeep)
}

// refused are filters that may not be.
func refused() []api.Filter {
	a, long := have("a"), filled("a", api.MaxText+1)
	loop := make([]api.Filter, 1)
	loop[0] = api.Filter{Kind: api.FAnd, Kids: loop}
	return []api.Filter{
		{}, or(), {Kind: api.FNot}, {Kind: api.FNot, Kids: []api.Filter{a, a}}, {Kind: -1}, {Kind: 10, Desc: "a"}, equal("", "a"), equal("a b", ""), equal("a;", ""), equal("1", ""), have("a*"), have(""), {Kind: api.FHave, Desc: "a", Value: "x"},
		{Kind: api.FEqual, Desc: "a", Kids: []api.Filter{a}}, {Kind: api.FEqual, Desc: "a", Dn: true}, {Kind: api.FEqual, Desc: "a", Rule: "b"}, part("a", "", ""), part("a", "x", "y", ""), part("a", "", "", "x", ""), part("", "x", ""),
		rule("", "", "x"), ruleDn("", "", "x"), rule("a", "dn", "x"), rule("", "DN", ""), rule("a", "b;c", ""), rule("a;", "b", ""), and(a, or()), not(and(a, equal("é", ""))),
		equal(long, ""), equal("a", long), have(long), part("a", long, ""), part("a", "", "", "x", long), part("a", "", long), rule("", long, ""), rule("a", "b", long), and(a, not(equal("a", long))),
		around(api.FNot, api.MaxDepth, a), around(api.FAnd, api.MaxDepth, a), or(slices.Repeat([]api.Filter{a}, api.MaxNodes)...), loop[0],
	}
}

// Many parts that share their long values would be more bytes than any room holds.
func TestEncodeShared(t *testing.T) {
	long := filled("\xff", api.MaxText)
	checkRefused(t, or(slices.Repeat([]api.Filter{equal("a", long)}, api.MaxNodes-1)...), api.ErrLong)
	checkRefused(t, part("a", "", "", slices.Repeat([]string{long}, 1<<20)...), api.ErrLong)
	f := equal("a", long)
	for range 15 {
		f = and(f, f)
	}
	checkRefused(t, f, api.ErrLong)
	checkRefused(t, around(api.FNot, 50, and(slices.Repeat([]api.Filter{equal("a", long)}, 1000)...)), api.ErrLong)
	checkRefused(t, and(slices.Repeat([]api.Filter{around(api.FNot, 62, have("a"))}, api.MaxNodes-1)...), api.ErrLong)
	most := and(slices.Repeat([]api.Filter{have("a")}, api.MaxNodes-1)...)
	checkEncode(t, most, made(0xa0, rows(said(0x87, "a"), api.MaxNodes-1)))
}

func TestEncodeMixed(t *testing.T) {
	d := diceOf(3)
	for range 4000 {
		f := d.filter(5)
		checkEncode(t, f, modelEncode(f))
	}
}
