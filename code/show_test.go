package code_test

import (
	"slices"
	"strings"
	"testing"

	"roster/api"
	"roster/code"
)

// The chapter's example, and lines written by hand for each kind of constant and instruction.
func TestShow(t *testing.T) {
	for _, x := range []struct {
		p    api.Program
		want string
	}{
		{with(program(fetch(0), tested(1)), getA, testX), "0 equal 3 61\n1 test 1\n0 fetch 0\n1 test 1\n"},
		{program(all), "0 all\n"},
		{program(nothing, all, meet, all, join, all, less), "0 nothing\n1 all\n2 and\n3 all\n4 or\n5 all\n6 less\n"},
		{unused(get(api.GetHave, 0, "")), "0 have 0\n0 all\n"},
		{unused(get(api.GetEqual, 7, ""), get(api.GetFrom, 1023, "\x00\xff"), get(api.GetUpTo, 10, "-")), "0 equal 7 -\n1 from 1023 00ff\n2 upto 10 2d\n0 all\n"},
		{unused(get(api.GetPart, 2, "", "", ""), get(api.GetPart, 2, "", "ab", "", " ")), "0 part 2 - -\n1 part 2 6162 - 20\n0 all\n"},
		{unused(test(and(have("a"), not(have("b")), or(have("c"))))), "0 test 5\n0 all\n"},
		{unused(test(around(api.FNot, 63, have("a")))), "0 test 1\n0 all\n"},
		{with(program(fetch(0), fetch(2), less, tested(1)), getA, testX, get(api.GetHave, 1, "")), "0 equal 3 61\n1 test 1\n2 have 1\n0 fetch 0\n1 fetch 2\n2 less\n3 test 1\n"},
		{program(), ""}, {program(all, all), ""}, {program(api.Instr{Op: 9}), ""}, {unused(test(and())), ""}, {with(program(), getA), ""},
	} {
		checkShow(t, x.p, x.want)
		checkShow(t, x.p, modelShow(x.p))
	}
}

// Long keys, many pieces, filters of as many parts as may be, many lines: places of many digits.
func TestShowMuch(t *testing.T) {
	key, text := filled(8*api.MaxText), filled(api.MaxText)
	checkShow(t, unused(get(api.GetFrom, 1, key)), "0 from 1 "+strings.Repeat("78", len(key))+"\n0 all\n")
	checkShow(t, unused(get(api.GetPart, 1, "", text, "", text)), "0 part 1 "+strings.Repeat("78", len(text))+" - "+strings.Repeat("78", len(text))+"\n0 all\n")
	checkShow(t, unused(get(api.GetPart, 1, "", slices.Repeat([]string{""}, 50000)...)), "0 part 1"+strings.Repeat(" -", 50000)+"\n0 all\n")
	checkShow(t, unused(test(or(slices.Repeat([]api.Filter{have("a")}, api.MaxNodes-1)...))), "0 test 65536\n0 all\n")
	p := unused(slices.Repeat([]api.Const{get(api.GetHave, 5, "")}, 100001)...)
	p.Code = append(p.Code, slices.Repeat([]api.Instr{all, join}, 60000)...)
	text = code.Show(p)
	lines := strings.Split(text, "\n")
	if len(lines) != 220003 || lines[99999] != "99999 have 5" || lines[100000] != "100000 have 5" || lines[100001] != "0 all" || lines[220001] != "120000 or" || lines[220002] != "" {
		t.Errorf("%d lines: %q, %q, %q, %q", len(lines), lines[99999], lines[100000], lines[100001], lines[len(lines)-2])
	}
	checkShow(t, p, modelShow(p))
}
