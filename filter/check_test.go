package filter_test

import (
	"slices"
	"strings"
	"testing"

	"roster/api"
	"roster/filter"
)

func checkCheck(t *testing.T, f api.Filter, wrong api.Errno, nodes, depth int) {
	t.Helper()
	if e, n, d := filter.Check(f); e != wrong || n != nodes || d != depth {
		t.Errorf("Check(%s) is %v, %d, %d; want %v, %d, %d", shown(f), e, n, d, wrong, nodes, depth)
	}
}

func checkTaken(t *testing.T, f api.Filter, nodes, depth int) {
	t.Helper()
	checkCheck(t, f, api.OK, nodes, depth)
}

func checkRefused(t *testing.T, f api.Filter, wrong api.Errno) {
	t.Helper()
	checkCheck(t, f, wrong, 0, 0)
}

// The chapter's examples.
func TestCheckExamples(t *testing.T) {
	a := equal("cn", "a")
	checkTaken(t, and(a, not(equal("cn", "b"))), 3, 3)
	checkRefused(t, and(), api.ErrFilter)
	checkRefused(t, api.Filter{Kind: api.FNot, Kids: []api.Filter{a, a}}, api.ErrFilter)
	checkRefused(t, api.Filter{Kind: api.FEqual, Desc: "cn", Value: "a", Kids: []api.Filter{a}}, api.ErrFilter)
	checkRefused(t, equal("c n", "a"), api.ErrFilter)
	checkRefused(t, nots(64, a), api.ErrDeep)
	checkTaken(t, nots(63, a), 1, 64)
}

// Of the fields beside the kind those that must be there, and those that may be, kind by kind; of a part's pieces, and of a rule's Desc and Rule, one must be.
func TestCheckFields(t *testing.T) {
	const (
		kids = 1 << iota
		desc
		value
		start
		middles
		end
		ruled
		dn
		all
	)
	must := []int{api.FAnd: kids, api.FOr: kids, api.FNot: kids, api.FEqual: desc, api.FPart: desc, api.FMore: desc, api.FLess: desc, api.FHave: desc, api.FLike: desc, api.FRule: 0}
	one := []int{api.FPart: start | middles | end, api.FRule: desc | ruled}
	may := []int{api.FEqual: value, api.FPart: 0, api.FMore: value, api.FLess: value, api.FHave: 0, api.FLike: value, api.FRule: value | dn}
	at := func(table []int, kind int) int {
		if kind < 0 || kind >= len(table) {
			return 0
		}
		return table[kind]
	}
	for kind := -128; kind < 128; kind++ {
		for fields := range all {
			f := api.Filter{Kind: int8(kind), Kids: []api.Filter{}, Middles: []string{}, Dn: fields&dn != 0}
			for bit, text := range map[int]*string{desc: &f.Desc, value: &f.Value, start: &f.Start, end: &f.End, ruled: &f.Rule} {
				if fields&bit != 0 {
					*text = "a"
				}
			}
			if fields&kids != 0 {
				f.Kids = []api.Filter{have("cn")}
			}
			if fields&middles != 0 {
				f.Middles = []string{"a"}
			}
			ones := at(one, kind)
			right := kind >= 0 && kind <= api.FRule && fields&at(must, kind) == at(must, kind) && (ones == 0 || fields&ones != 0) && fields&^(at(must, kind)|ones|at(may, kind)) == 0
			nodes, depth := 1, 1
			if kind == api.FAnd || kind == api.FOr {
				nodes++
			}
			if kind <= api.FNot {
				depth++
			}
			if right {
				checkTaken(t, f, nodes, depth)
			} else {
				checkRefused(t, f, api.ErrFilter)
			}
		}
	}
}

func TestCheckKids(t *testing.T) {
	a := have("a")
	for many := range 6 {
		kids := slices.Repeat([]api.Filter{a}, many)
		for _, kind := range []int8{api.FAnd, api.FOr, api.FNot} {
			f := api.Filter{Kind: kind, Kids: kids}
			switch {
			case many == 0 || kind == api.FNot && many > 1:
				checkRefused(t, f, api.ErrFilter)
			case kind == api.FNot:
				checkTaken(t, f, 1, 2)
			default:
				checkTaken(t, f, many+1, 2)
			}
		}
	}
	checkTaken(t, and(or(a, not(or(a, a))), a), 7, 5)
	checkTaken(t, and(a, or(a, and(a, a)), a), 8, 4)
	checkTaken(t, not(not(not(a))), 1, 4)
}

func TestCheckPieces(t *testing.T) {
	for _, x := range []struct {
		text  string
		taken bool
	}{
		{"*", false}, {"a*", true}, {"*a", true}, {"*a*", true}, {"a*b*c*d", true}, {"a*b", true}, {"**", false}, {"a**", false}, {"**a", false}, {"*a**", false}, {"**a*", false}, {"a*b**c*d", false}, {" * * ", true}, {"\x00*\xff*", true},
	} {
		if x.taken {
			checkTaken(t, pieces("cn", x.text), 1, 1)
		} else {
			checkRefused(t, pieces("cn", x.text), api.ErrFilter)
		}
	}
}

// Each byte of a description and of a rule's word.
func TestCheckWords(t *testing.T) {
	look := func(word string) {
		t.Helper()
		desc, name := descForm.MatchString(word), ruleForm.MatchString(word) && !dnForm.MatchString(word)
		for _, x := range []struct {
			f     api.Filter
			taken bool
		}{
			{equal(word, "a"), desc}, {have(word), desc}, {pieces(word, "a*"), desc}, {item(api.FMore, word, "a"), desc}, {item(api.FLess, word, "a"), desc}, {item(api.FLike, word, ""), desc},
			{rule(word, "", "a"), desc}, {rule(word, "a", "a"), desc || word == ""}, {rule("", word, "a"), name}, {ruleDn("cn;x", word, ""), name || word == ""},
		} {
			if e, n, d := filter.Check(x.f); e == api.OK != x.taken || e == api.OK && (n != 1 || d != 1) || e != api.OK && (e != api.ErrFilter || n != 0 || d != 0) {
				t.Errorf("Check(%s) is %v, %d, %d; want %v", shown(x.f), e, n, d, x.taken)
			}
		}
	}
	for _, word := range []string{
		"", "a", "Z", "cn", "dn", "DN", "dN", "Dn", "dn1", "adn", "d-n", "dn;x", "dn.", "a-", "-a", "a1", "1a", "a.b", "a;", "a;;b", ";a", "a;b", "a;1", "a;-", "a;b;c", "a;b;B", "a;b c", "a;ä", "ä", "a:", "a=b", "a*", "a(b)", "a_b", " a", "a ",
		"0", "1", "1.", ".1", "1.2", "0.0", "0.10.200", "00.1", "1.00", "1.01", "1..2", "1.2.", "1.a", "1.2;a", "1.2;", "1.2-", "1.-2", "+1.2", "1;a", "a;b;c;d;e;f;g;h;i;j;k", "1.2;1.2", "\u212a", "d\u2099",
	} {
		look(word)
	}
	for b := range 256 {
		c := string([]byte{byte(b)})
		for _, word := range []string{c, c + "a", "a" + c, "a" + c + "b", "a;" + c, "a;b" + c, "a;" + c + "b", "1" + c + "2", "1.2" + c, "1." + c, c + ".1", "d" + c, c + "n"} {
			look(word)
		}
	}
}

// The word dn is no rule, however it is spelt; it may be a description's, and words near it may be rules.
func TestCheckDn(t *testing.T) {
	for _, word := range []string{"dn", "dN", "Dn", "DN"} {
		checkRefused(t, rule("", word, "a"), api.ErrFilter)
		checkRefused(t, rule("cn", word, "a"), api.ErrFilter)
		checkRefused(t, ruleDn("", word, "a"), api.ErrFilter)
		checkRefused(t, not(and(have("cn"), ruleDn("cn", word, ""))), api.ErrFilter)
		checkTaken(t, rule(word, "", "a"), 1, 1)
		checkTaken(t, equal(word, "a"), 1, 1)
	}
	for _, word := range []string{"d", "n", "dnx", "xdn", "d-n", "D", "N", "DNX", "XDN", "D-N", "nd", "dn-", "dn1", "dndn"} {
		checkTaken(t, rule("", word, "a"), 1, 1)
		checkTaken(t, ruleDn("cn", word, "a"), 1, 1)
	}
}

// All short texts of the signs that count.
func TestCheckWordsAll(t *testing.T) {
	level := []string{""}
	for range 5 {
		var next []string
		for _, word := range level {
			for _, c := range []string{"d", "N", "0", "7", ".", "-", ";", " "} {
				next = append(next, word+c)
			}
		}
		level = next
		for _, word := range level {
			if e, _, _ := filter.Check(have(word)); e == api.OK != descForm.MatchString(word) {
				t.Fatalf("the description %q: %v", word, e)
			}
			if e, _, _ := filter.Check(rule("", word, "")); e == api.OK != (ruleForm.MatchString(word) && !dnForm.MatchString(word)) {
				t.Fatalf("the rule %q: %v", word, e)
			}
		}
	}
}

// How many options there are, and what a schema makes of a description, is no business of Check.
func TestCheckOptions(t *testing.T) {
	checkTaken(t, have("a"+strings.Repeat(";b", 100)), 1, 1)
	checkTaken(t, have("a"+strings.Repeat(";b", api.MaxText/2-1)+"c"), 1, 1)
	checkTaken(t, have("zz;1"), 1, 1)
}

// Texts of MaxText bytes, and of one more, in each field.
func TestCheckLongTexts(t *testing.T) {
	for _, over := range []int{0, 1} {
		long := strings.Repeat("a", api.MaxText+over)
		dotted := "1." + strings.Repeat("1", api.MaxText+over-2)
		for _, f := range []api.Filter{
			equal(long, "a"), equal("a", long), equal("a", strings.Repeat("\x00", api.MaxText+over)), item(api.FMore, "a", long), item(api.FMore, long, ""), item(api.FLess, "a", long), item(api.FLess, dotted, "a"), item(api.FLike, "a", long), item(api.FLike, long, long),
			have(long), have(dotted), have("a;" + long[2:]), pieces(long, "a*"), pieces("a", long+"*"), pieces("a", "*"+long), pieces("a", "*"+long+"*"), pieces("a", "a*b*"+long+"*c"), pieces("a", "a*"+long+"*b*c"), pieces("a", "a*b*c*"+long),
			rule(long, "", ""), rule("", long, ""), rule("", dotted, ""), rule("a", "b", long), rule(long, long, long), ruleDn("", "b", long), ruleDn("a", long, ""),
		} {
			if over == 0 {
				checkTaken(t, f, 1, 1)
				checkTaken(t, not(f), 1, 2)
			} else {
				checkRefused(t, f, api.ErrLong)
				checkRefused(t, or(have("a"), not(f)), api.ErrLong)
			}
		}
	}
}

// A text that is too long counts ahead of all that makes the part one that may not be, in whichever field it stands.
func TestCheckLongAheadOfFilter(t *testing.T) {
	long := strings.Repeat(" ", api.MaxText+1)
	for kind := -128; kind < 128; kind++ {
		for field := range 7 {
			f := api.Filter{Kind: int8(kind)}
			switch field {
			case 0:
				f.Desc = long
			case 1:
				f.Value = long
			case 2:
				f.Start = long
			case 3:
				f.Middles = []string{long, ""}
			case 4:
				f.Middles = []string{"", "", long}
			case 5:
				f.End = long
			case 6:
				f.Rule = long
			}
			checkRefused(t, f, api.ErrLong)
			f.Kids = []api.Filter{{}, {}}
			checkRefused(t, f, api.ErrLong)
			// All of them together are no text.
			f = api.Filter{Kind: int8(kind), Desc: long[1:], Value: long[1:], Start: long[1:], Middles: []string{long[1:], long[1:]}, End: long[1:], Rule: long[1:]}
			checkRefused(t, f, api.ErrFilter)
		}
	}
}

// The first part in order at which something is wrong tells.
func TestCheckOrder(t *testing.T) {
	long, bad := equal("a", strings.Repeat("a", api.MaxText+1)), and()
	right := have("a")
	deep := nots(api.MaxDepth, right)
	checkRefused(t, and(long, bad), api.ErrLong)
	checkRefused(t, and(bad, long), api.ErrFilter)
	checkRefused(t, and(right, not(bad), long), api.ErrFilter)
	checkRefused(t, and(right, not(long), bad), api.ErrLong)
	checkRefused(t, and(deep, long, bad), api.ErrDeep)
	checkRefused(t, and(long, deep), api.ErrLong)
	checkRefused(t, and(bad, deep), api.ErrFilter)
	// A part stands ahead of its kids.
	checkRefused(t, api.Filter{Kind: api.FNot, Kids: []api.Filter{long, bad}}, api.ErrFilter)
	checkRefused(t, api.Filter{Kind: api.FAnd, Desc: "a", Kids: []api.Filter{long, deep}}, api.ErrFilter)
	checkRefused(t, api.Filter{Kind: api.FOr, Value: long.Value, Kids: []api.Filter{bad, deep}}, api.ErrLong)
	checkRefused(t, api.Filter{Kind: api.FEqual, Desc: "a", Kids: []api.Filter{long}}, api.ErrFilter)
	// Kids of kids stand ahead of the next kid.
	checkRefused(t, and(or(right, not(bad)), long), api.ErrFilter)
	checkRefused(t, and(or(right, not(long)), bad), api.ErrLong)
}

func around(kind int8, many int, f api.Filter) api.Filter {
	for range many {
		f = api.Filter{Kind: kind, Kids: []api.Filter{f}}
	}
	return f
}

func TestCheckDepth(t *testing.T) {
	right := have("a")
	long := equal("a", strings.Repeat("a", api.MaxText+1))
	for many := range 70 {
		for _, kind := range []int8{api.FAnd, api.FOr, api.FNot} {
			f := around(kind, many, right)
			switch {
			case many >= api.MaxDepth:
				checkRefused(t, f, api.ErrDeep)
			case kind == api.FNot:
				checkTaken(t, f, 1, many+1)
			default:
				checkTaken(t, f, many+1, many+1)
			}
			// At the part that is too deep that counts ahead of all else; above it, what is wrong there.
			for _, x := range []struct {
				f     api.Filter
				wrong api.Errno
			}{{and(), api.ErrFilter}, {long, api.ErrLong}, {api.Filter{Kind: 10}, api.ErrFilter}} {
				if many >= api.MaxDepth {
					x.wrong = api.ErrDeep
				}
				checkRefused(t, around(kind, many, x.f), x.wrong)
			}
		}
	}
	checkTaken(t, and(right, nots(62, right), right), 4, 64)
	checkRefused(t, and(right, nots(63, right), and()), api.ErrDeep)
	checkTaken(t, around(api.FAnd, 31, nots(32, right)), 32, 64)
	checkRefused(t, around(api.FAnd, 31, nots(33, right)), api.ErrDeep)
}

func TestCheckNodes(t *testing.T) {
	right, bad := have("a"), and()
	long := equal("a", strings.Repeat("a", api.MaxText+1))
	full := slices.Repeat([]api.Filter{right}, api.MaxNodes-1)
	checkTaken(t, or(full...), api.MaxNodes, 2)
	checkTaken(t, nots(62, or(full...)), api.MaxNodes, 64)
	checkRefused(t, or(append(slices.Clip(full), right)...), api.ErrLong)
	checkRefused(t, or(append(slices.Clip(full), not(right))...), api.ErrLong)
	checkRefused(t, or(slices.Repeat([]api.Filter{right}, 3*api.MaxNodes)...), api.ErrLong)
	// Nots do not count, however many there are.
	checkTaken(t, and(slices.Repeat([]api.Filter{nots(5, right)}, api.MaxNodes-1)...), api.MaxNodes, 7)
	checkTaken(t, and(slices.Repeat([]api.Filter{nots(62, right)}, api.MaxNodes-1)...), api.MaxNodes, 64)
	checkRefused(t, and(slices.Repeat([]api.Filter{nots(5, right)}, api.MaxNodes)...), api.ErrLong)
	// Ands and Ors do.
	pairs := slices.Repeat([]api.Filter{or(right)}, api.MaxNodes/2-1)
	checkTaken(t, and(pairs...), api.MaxNodes-1, 3)
	checkTaken(t, and(append(slices.Clip(pairs), right)...), api.MaxNodes, 3)
	checkRefused(t, and(append(slices.Clip(pairs), or(right))...), api.ErrLong)
	// The part above MaxNodes is too much, whatever it is; a Not there is looked at for itself.
	checkRefused(t, or(append(slices.Clip(full), bad)...), api.ErrLong)
	checkRefused(t, or(append(slices.Clip(full), api.Filter{Kind: -1})...), api.ErrLong)
	checkRefused(t, or(append(slices.Clip(full[1:]), bad)...), api.ErrFilter)
	checkRefused(t, or(append(slices.Clip(full), api.Filter{Kind: api.FNot})...), api.ErrFilter)
	checkRefused(t, or(append(slices.Clip(full), api.Filter{Kind: api.FNot, Kids: []api.Filter{right, right}})...), api.ErrFilter)
	checkRefused(t, or(append(slices.Clip(full), api.Filter{Kind: api.FNot, Value: long.Value, Kids: []api.Filter{right}})...), api.ErrLong)
	checkRefused(t, or(append(slices.Clip(full), not(bad))...), api.ErrLong)
	checkRefused(t, or(append(slices.Clip(full[1:]), not(bad))...), api.ErrFilter)
	// Too deep counts ahead of too many.
	checkRefused(t, or(append(slices.Clip(full[63:]), around(api.FAnd, 63, right))...), api.ErrDeep)
	checkRefused(t, or(append(slices.Clip(full), nots(63, right))...), api.ErrDeep)
	checkRefused(t, or(append(slices.Clip(full), nots(62, right))...), api.ErrLong)
}

// doubled has each part twice in the one above it, all of one list: few bytes, many parts.
func doubled(times int, f api.Filter) api.Filter {
	for range times {
		f = and(f, f)
	}
	return f
}

func TestCheckShared(t *testing.T) {
	right := have("a")
	checkTaken(t, doubled(15, right), 1<<16-1, 16)
	checkRefused(t, doubled(16, right), api.ErrLong)
	checkRefused(t, doubled(63, right), api.ErrLong)
	checkRefused(t, doubled(64, right), api.ErrDeep)
	checkRefused(t, doubled(200, right), api.ErrDeep)
	checkRefused(t, doubled(63, and()), api.ErrFilter)
	checkTaken(t, nots(30, doubled(15, not(not(right)))), 1<<16-1, 48)
	checkRefused(t, nots(20, doubled(30, nots(10, right))), api.ErrLong)
	// A list that has itself in it has no end.
	for _, kind := range []int8{api.FAnd, api.FOr, api.FNot} {
		loop := make([]api.Filter, 1)
		loop[0] = api.Filter{Kind: kind, Kids: loop}
		checkRefused(t, loop[0], api.ErrDeep)
		checkRefused(t, or(right, loop[0], and()), api.ErrDeep)
	}
	wide := []api.Filter{right, {}, {}, right}
	wide[1], wide[2] = and(wide...), or(wide...)
	wide[1].Kids, wide[2].Kids = wide, wide
	checkRefused(t, and(wide...), api.ErrDeep)
}

func TestCheckRandom(t *testing.T) {
	d := diceOf(t, 1)
	var taken, refused int
	for range 40000 {
		f := d.filter(4)
		for range d.Intn(3) {
			f = d.spoilt(f)
		}
		wrong, nodes, depth := modelCheck(f)
		checkCheck(t, f, wrong, nodes, depth)
		if wrong == api.OK {
			taken++
		} else {
			refused++
		}
	}
	if taken < 10000 || refused < 10000 {
		t.Errorf("%d are taken, %d refused", taken, refused)
	}
}
