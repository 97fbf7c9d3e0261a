package text_test

import (
	"slices"
	"strings"
	"testing"

	"roster/api"
	"roster/filter"
	"roster/text"
)

func checkPrint(t *testing.T, f api.Filter, want string) {
	t.Helper()
	if s, wrong := text.Print(f); s != want || wrong != api.OK {
		t.Errorf("Print(%s) is %s, %v; want %s", shown(f), brief(s), wrong, brief(want))
	}
}

func checkUnprinted(t *testing.T, f api.Filter, want api.Errno) {
	t.Helper()
	if s, wrong := text.Print(f); s != "" || wrong != want {
		t.Errorf("Print(%s) is %s, %v; want %v", shown(f), brief(s), wrong, want)
	}
}

// The chapter's examples.
func TestPrintExamples(t *testing.T) {
	checkPrint(t, part("cn", "a*", "", "b"), `(cn=a\2a*b*)`)
	checkPrint(t, ruleDn("o", "", "x"), "(o:dn:=x)")
	checkUnprinted(t, and(), api.ErrFilter)
}

func TestPrintKinds(t *testing.T) {
	a := equal("a", "b")
	for want, f := range map[string]api.Filter{
		"(a=b)":                          a,
		"(a=)":                           equal("a", ""),
		"(a~=b)":                         item(api.FLike, "a", "b"),
		"(a>=b)":                         item(api.FMore, "a", "b"),
		"(a<=)":                          item(api.FLess, "a", ""),
		"(A;X;-=*)":                      have("A;X;-"),
		"(1.2=x*)":                       part("1.2", "x", ""),
		"(a=*x)":                         part("a", "", "x"),
		"(a=*x*)":                        part("a", "", "", "x"),
		"(a=w*x*y*z)":                    part("a", "w", "z", "x", "y"),
		"(a=w*z)":                        part("a", "w", "z"),
		"(a:=v)":                         rule("a", "", "v"),
		"(a;x:B:=v)":                     rule("a;x", "B", "v"),
		"(:b:=)":                         rule("", "b", ""),
		"(a:dn:1.2:=v)":                  ruleDn("a", "1.2", "v"),
		"(:dn:b:=v)":                     ruleDn("", "b", "v"),
		"(dn:dn:dnx:=v)":                 ruleDn("dn", "dnx", "v"),
		"(&(a=b))":                       and(a),
		"(|(a=b)(a=*)(a=b))":             or(a, have("a"), a),
		"(!(!(&(a=b)(|(a=b)(!(a=b))))))": not(not(and(a, or(a, not(a))))),
		"(a= b  c )":                     equal("a", " b  c "),
	} {
		checkPrint(t, f, want)
		checkTaken(t, want, f)
		if model := modelPrint(f); model != want {
			t.Errorf("the model writes %s", model)
		}
	}
}

func TestPrintEscapes(t *testing.T) {
	for value, want := range map[string]string{
		"\x00()*\\":            `\00\28\29\2a\5c`,
		`\2a`:                  `\5c2a`,
		"é€😀\ufffd":            "é€😀\ufffd",
		"\xff\xc3\xa9\xc3":     `\ffé\c3`,
		"\xed\xa0\x80":         `\ed\a0\80`,
		"\xe2\x82":             `\e2\82`,
		"\x01\x7f\n &|!=:;<>~": "\x01\x7f\n &|!=:;<>~",
		"\xa9é\xc0\x80":        `\a9é\c0\80`,
	} {
		checkPrint(t, equal("a", value), "(a="+want+")")
		checkPrint(t, item(api.FLike, "a", value), "(a~="+want+")")
		checkPrint(t, rule("a", "b", value), "(a:b:="+want+")")
		checkPrint(t, part("a", value, value, value, value), "(a="+strings.Repeat(want+"*", 3)+want+")")
	}
	for b := range 256 {
		value := string([]byte{byte(b)})
		for _, f := range []api.Filter{equal("a", value), part("a", value+"a", "a"+value, value), item(api.FLess, "a", "\xc3"+value)} {
			checkPrint(t, f, modelPrint(f))
			checkTaken(t, modelPrint(f), f)
		}
	}
}

// What filter.Check refuses is refused with its code.
func TestPrintRefused(t *testing.T) {
	a := have("a")
	long := filled("a", api.MaxText+1)
	loop := make([]api.Filter, 1)
	loop[0] = api.Filter{Kind: api.FAnd, Kids: loop}
	for _, f := range []api.Filter{
		{}, or(), {Kind: api.FNot}, {Kind: api.FNot, Kids: []api.Filter{a, a}}, {Kind: -1}, {Kind: 10, Desc: "a"}, equal("", "a"), equal("a b", ""), equal("a;", ""), equal("1", ""), have("a*"), {Kind: api.FHave, Desc: "a", Value: "x"},
		{Kind: api.FEqual, Desc: "a", Kids: []api.Filter{a}}, {Kind: api.FEqual, Desc: "a", Dn: true}, {Kind: api.FEqual, Desc: "a", Rule: "b"}, part("a", "", ""), part("a", "x", "y", ""), part("a", "", "", "x", ""), part("", "x", ""),
		rule("", "", "x"), ruleDn("", "", "x"), rule("a", "dn", "x"), rule("", "DN", ""), rule("a", "b;c", ""), rule("a;", "b", ""), and(a, or()), not(and(a, equal("é", ""))),
		equal(long, ""), equal("a", long), have(long), part("a", long, ""), part("a", "", "", "x", long), part("a", "", long), rule("", long, ""), rule("a", "b", long), and(a, not(equal("a", long))),
		around(api.FNot, api.MaxDepth, a), around(api.FAnd, api.MaxDepth, a), or(slices.Repeat([]api.Filter{a}, api.MaxNodes)...), loop[0],
	} {
		want, _, _ := filter.Check(f)
		if want == api.OK {
			t.Fatalf("%s may be", shown(f))
		}
		checkUnprinted(t, f, want)
	}
	checkUnprinted(t, and(equal("a", long), or()), api.ErrLong)
	checkUnprinted(t, around(api.FNot, api.MaxDepth, a), api.ErrDeep)
	// What may not be is told ahead of a text that is too long.
	wide := slices.Repeat([]api.Filter{equal("a", long[1:])}, 20)
	checkUnprinted(t, and(append(wide, or())...), api.ErrFilter)
}

// exactly is a filter whose text has so many bytes; its values are rows of one.
func exactly(size int, one string) api.Filter {
	width := len(modelEscape(one))
	kid := equal("a", filled(one, 20000))
	kidSize := len("(a=)") + 20000*width
	f := and()
	size -= len("(&)")
	for ; size > 2*kidSize; size -= kidSize {
		f.Kids = append(f.Kids, kid)
	}
	size -= len("(a=)")
	f.Kids = append(f.Kids, equal("a", filled("x", size%width)+filled(one, size/width)))
	return f
}

// Texts of MaxBytes bytes, and of one more.
func TestPrintMaxBytes(t *testing.T) {
	for _, one := range []string{"x", "*", "\x00", "\xff", "\\"} {
		for size := api.MaxBytes - 4; size <= api.MaxBytes+4; size++ {
			f := exactly(size, one)
			if wrong, _, _ := filter.Check(f); wrong != api.OK {
				t.Fatalf("%v", wrong)
			}
			if size > api.MaxBytes {
				checkUnprinted(t, f, api.ErrLong)
				continue
			}
			s, wrong := text.Print(f)
			if wrong != api.OK || len(s) != size {
				t.Errorf("%d bytes, %v; want %d", len(s), wrong, size)
			}
			checkTaken(t, s, f)
		}
	}
	// Whatever stands last may be what is too much.
	for last, f := range map[string]api.Filter{"(a=12345)": equal("a", "12345"), "(a=1*3*5)": part("a", "1", "5", "3"), "(a:dn:=6)": ruleDn("a", "", "6"), "(:bcd:=7)": rule("", "bcd", "7"), "(!(a;x=))": not(equal("a;x", "")), "(abcde=*)": have("abcde"), "(|(ab=*))": or(have("ab"))} {
		whole := exactly(api.MaxBytes-len(last), "x")
		whole.Kids = append(whole.Kids, f)
		s, wrong := text.Print(whole)
		if wrong != api.OK || len(s) != api.MaxBytes || !strings.HasSuffix(s, last+")") {
			t.Errorf("%s: %d bytes, %v", last, len(s), wrong)
		}
		whole.Kids[0].Value += "x"
		checkUnprinted(t, whole, api.ErrLong)
	}
}

// Many parts that share their long values would make a text that no room holds.
func TestPrintShared(t *testing.T) {
	long := filled("\xff", api.MaxText)
	checkUnprinted(t, or(slices.Repeat([]api.Filter{equal("a", long)}, api.MaxNodes-1)...), api.ErrLong)
	checkUnprinted(t, part("a", "", "", slices.Repeat([]string{long}, 1<<20)...), api.ErrLong)
	f := equal("a", long)
	for range 15 {
		f = and(f, f)
	}
	checkUnprinted(t, f, api.ErrLong)
	// Of many Nots, too.
	nots := around(api.FNot, 62, have("a"))
	checkUnprinted(t, and(slices.Repeat([]api.Filter{nots}, api.MaxNodes-1)...), api.ErrLong)
	if s, wrong := text.Print(and(slices.Repeat([]api.Filter{have("a")}, api.MaxNodes-1)...)); wrong != api.OK || len(s) != 3+5*(api.MaxNodes-1) {
		t.Errorf("%d bytes, %v", len(s), wrong)
	}
}

func TestPrintMixed(t *testing.T) {
	d := diceOf(5)
	for range 4000 {
		f := d.filter(5)
		checkPrint(t, f, modelPrint(f))
	}
}
