package text_test

import (
	"strings"
	"testing"

	"roster/api"
	"roster/filter"
	"roster/text"
)

// filled is a text of so many bytes: a row of one byte.
func filled(b string, size int) string { return strings.Repeat(b, size) }

func checkLong(t *testing.T, s string, at int) {
	t.Helper()
	checkFault(t, s, api.Fault{Code: api.ErrLong, At: at, Word: s[at : at+1]})
}

// A text of MaxBytes bytes, and of one more, whatever it says.
func TestParseMaxBytes(t *testing.T) {
	kid := "(a=" + filled("x", 1020) + ")"
	full := "(&" + strings.Repeat(kid, api.MaxBytes/len(kid)-1)
	last := api.MaxBytes - len(full) - len("(a=))")
	full += "(a=" + filled("x", last) + "))"
	if len(full) != api.MaxBytes {
		t.Fatalf("%d bytes", len(full))
	}
	f, err := text.Parse(full)
	if err != nil || len(f.Kids) != api.MaxBytes/len(kid) || f.Kids[len(f.Kids)-1].Value != filled("x", last) {
		t.Errorf("%v, %d kids", err, len(f.Kids))
	}
	checkBack(t, full)
	checkFault(t, full[:api.MaxBytes-1], api.Fault{Code: api.ErrShort, At: api.MaxBytes - 1})
	checkFault(t, full[:api.MaxBytes-1]+" ", api.Fault{Code: api.ErrSyntax, At: api.MaxBytes - 1, Word: " "})
	long := api.Fault{Code: api.ErrLong}
	for _, s := range []string{full + ")", full + " ", strings.Replace(full, "&", "&(a=)", 1), "x" + full, filled("(", api.MaxBytes+1), filled("\xff", 2*api.MaxBytes), filled("(!", 2*api.MaxBytes), "(a=" + filled("x", api.MaxBytes)} {
		checkFault(t, s, long)
	}
	for s, want := range map[string]api.Fault{
		filled("(", api.MaxBytes):                           {Code: api.ErrSyntax, At: 1, Word: "("},
		filled("\xff", api.MaxBytes):                        {Code: api.ErrSyntax, At: 0, Word: "\xff"},
		filled("(!", api.MaxBytes/2):                        {Code: api.ErrDeep, At: 2 * api.MaxDepth, Word: "("},
		"(a=)" + filled(")", api.MaxBytes-4):                {Code: api.ErrSyntax, At: 4, Word: ")"},
		"(a=" + filled("x", api.MaxBytes-4) + "(":           {Code: api.ErrEscape, At: api.MaxBytes - 1, Word: "("},
		"(a=" + filled("x", api.MaxBytes-3):                 {Code: api.ErrLong, At: 3, Word: "x"},
		"(" + filled("a", api.MaxBytes-1):                   {Code: api.ErrLong, At: 1, Word: "a"},
		"(" + filled("1", api.MaxBytes-1):                   {Code: api.ErrShort, At: api.MaxBytes},
		"(a=" + filled(`\41`, api.MaxBytes/3-2) + ")":       {Code: api.ErrLong, At: 3, Word: `\`},
		"(a=" + filled("*", api.MaxBytes-4) + "(":           {Code: api.ErrEscape, At: api.MaxBytes - 1, Word: "("},
		"(a=" + filled("\xff", api.MaxBytes-4) + ")":        {Code: api.ErrUTF, At: 3, Word: "\xff"},
		"(a=" + filled("\ufffd", api.MaxBytes/3-2) + "\xef": {Code: api.ErrUTF, At: 3 + 3*(api.MaxBytes/3-2), Word: "\xef"},
	} {
		checkFault(t, s, want)
	}
	checkTaken(t, "(a="+filled("*", api.MaxBytes-4)+")", have("a"))
	pieces, err := text.Parse("(a=" + filled("*x", (api.MaxBytes-4)/2) + ")")
	if err != nil || len(pieces.Middles) != (api.MaxBytes-4)/2-1 || pieces.End != "x" || pieces.Start != "" {
		t.Errorf("%v, %d pieces", err, len(pieces.Middles))
	}
}

func TestParseDepth(t *testing.T) {
	a := have("a")
	for sign, kind := range map[string]int8{"(&": api.FAnd, "(|": api.FOr, "(!": api.FNot} {
		for many := range api.MaxDepth {
			checkTaken(t, filled(sign, many)+"(a=*)"+filled(")", many), around(kind, many, a))
		}
		above := filled(sign, api.MaxDepth)
		checkFault(t, above, api.Fault{Code: api.ErrShort, At: len(above)})
		for _, behind := range []string{"(a=*)" + filled(")", api.MaxDepth), "(", "()", "(!(a=*)", "(!", "(&", "(a", "(\xff", "(a=\\"} {
			checkFault(t, above+behind, api.Fault{Code: api.ErrDeep, At: len(above), Word: "("})
		}
		for _, behind := range []string{"a", ")", "\x00"} {
			checkFault(t, above+behind, api.Fault{Code: api.ErrSyntax, At: len(above), Word: behind[:1]})
		}
	}
	// A kid that comes late is as deep as one that comes early.
	deep := filled("(!", api.MaxDepth-2) + "(a=*)" + filled(")", api.MaxDepth-2)
	checkTaken(t, "(|(a=*)"+deep+deep+")", or(a, around(api.FNot, api.MaxDepth-2, a), around(api.FNot, api.MaxDepth-2, a)))
	checkFault(t, "(|(a=*)"+deep+"(!"+deep+"))", api.Fault{Code: api.ErrDeep, At: len("(|(a=*)"+deep) + 2*(api.MaxDepth-1), Word: "("})
	// Where no part may begin, a ( is not too deep.
	full := filled("(&", api.MaxDepth-1) + "(a=*)"
	checkFault(t, full+"((", api.Fault{Code: api.ErrSyntax, At: len(full) + 1, Word: "("})
	checkFault(t, filled("(!", api.MaxDepth-1)+"((", api.Fault{Code: api.ErrSyntax, At: 2*api.MaxDepth - 1, Word: "("})
}

func TestParseMaxNodes(t *testing.T) {
	full := "(|" + filled("(a=)", api.MaxNodes-1)
	for s, want := range map[string]int{
		full + ")": api.MaxNodes - 1,
		"(|" + filled("(!(a=))", api.MaxNodes-1) + ")":                api.MaxNodes - 1,
		"(&" + filled("(!(!(!(a=))))", api.MaxNodes-1) + ")":          api.MaxNodes - 1,
		"(|" + filled("(&(a=))", api.MaxNodes/2-1) + "(a=))":          api.MaxNodes / 2,
		"(|" + filled("(&(a=)(!(a=)))", api.MaxNodes/3) + ")":         api.MaxNodes / 3,
		"(|" + filled("(&(a=))", api.MaxNodes/2-2) + full[2:14] + ")": api.MaxNodes/2 + 1,
	} {
		f, err := text.Parse(s)
		wrong, nodes, _ := filter.Check(f)
		if err != nil || len(f.Kids) != want || wrong != api.OK || nodes > api.MaxNodes || nodes < api.MaxNodes-1 {
			t.Errorf("Parse(%s): %v, %d kids, %v, %d parts", brief(s), err, len(f.Kids), wrong, nodes)
		}
	}
	nots := filled("(!", 62)
	for _, ahead := range []string{full, nots + full, "(|" + filled("(!(a=))", api.MaxNodes-1), "(|" + filled("(&(a=))", api.MaxNodes/2-1) + "(a=)"} {
		for _, behind := range []string{"(a=))", "(&(a=)))", "(|(a=)))", "(", "()", "((", "(a", "(\xff", "(b=\\", "(:dn:dn"} {
			if strings.HasPrefix(ahead, nots) && strings.Contains(behind, "(&") {
				continue
			}
			checkLong(t, ahead+behind, len(ahead))
		}
		checkFault(t, ahead, api.Fault{Code: api.ErrShort, At: len(ahead)})
		checkFault(t, ahead+"x", api.Fault{Code: api.ErrSyntax, At: len(ahead), Word: "x"})
	}
	// A Not is no part more; what stands in it is.
	checkLong(t, full+"(!(a=)))", len(full)+2)
	checkLong(t, full+"(!(!(!(a=)))))", len(full)+6)
	checkFault(t, full+"(!", api.Fault{Code: api.ErrShort, At: len(full) + 2})
	checkFault(t, full+"(!)", api.Fault{Code: api.ErrSyntax, At: len(full) + 2, Word: ")"})
	// Too deep counts ahead of too many.
	checkFault(t, full+nots+"(!(", api.Fault{Code: api.ErrDeep, At: len(full) + 126, Word: "("})
	checkLong(t, full+nots+"(", len(full)+124)
	// Behind the filter no part begins.
	checkFault(t, full+")(a=)", api.Fault{Code: api.ErrSyntax, At: len(full) + 1, Word: "("})
	checkFault(t, "(!(|"+filled("(a=)", api.MaxNodes-1)+")(", api.Fault{Code: api.ErrSyntax, At: len(full) + 3, Word: "("})
}

// Descriptions and rules of MaxText bytes, and of one more.
func TestParseLongWords(t *testing.T) {
	words := func(size int) []string {
		return []string{filled("a", size), "a" + filled("-", size-1), "1." + filled("2", size-2), filled("0.", size/2-1) + filled("1", size-2*(size/2-1)), "0." + filled("1", size-2)}
	}
	for _, word := range words(api.MaxText) {
		checkTaken(t, "("+word+"=x)", equal(word, "x"))
		checkTaken(t, "("+word+"=*)", have(word))
		checkTaken(t, "("+word+":"+word+":=x)", rule(word, word, "x"))
		checkTaken(t, "(:dn:"+word+":=x)", ruleDn("", word, "x"))
		checkTaken(t, "("+word+":dn:"+word+":=x)", ruleDn(word, word, "x"))
		checkFault(t, "("+word, api.Fault{Code: api.ErrShort, At: 1 + api.MaxText})
		checkFault(t, "(:"+word, api.Fault{Code: api.ErrShort, At: 2 + api.MaxText})
		checkFault(t, "("+word+";", api.Fault{Code: api.ErrShort, At: 2 + api.MaxText})
		checkFault(t, "("+word+"_", api.Fault{Code: api.ErrSyntax, At: 1 + api.MaxText, Word: "_"})
		checkLong(t, "("+word+";x=x)", 1)
		checkLong(t, "("+word+";x", 1)
		checkFault(t, "("+word+";=x)", api.Fault{Code: api.ErrSyntax, At: 2 + api.MaxText, Word: "="})
	}
	optioned := "a;" + filled("b;", api.MaxText/2-2) + "bc"
	checkTaken(t, "("+optioned+"=x)", equal(optioned, "x"))
	checkLong(t, "("+optioned+"d=x)", 1)
	for _, more := range []int{1, 2, 70000} {
		for _, word := range words(api.MaxText + more) {
			for _, behind := range []string{"=x)", "", ":=x)", "~", "_", "\x00", "\xff", ")", "(", ":dn:dn", "=\\"} {
				checkLong(t, "("+word+behind, 1)
				checkLong(t, "(&(a=)(!("+word+behind, len("(&(a=)(!("))
				checkLong(t, "(:"+word+behind, 2)
				checkLong(t, "(:dn:"+word+behind, 5)
				checkLong(t, "(a:"+word+behind, 3)
				checkLong(t, "(a;x:DN:"+word+behind, 8)
			}
		}
		// What is not read to its end is not too long yet.
		word := filled("a", api.MaxText+more)
		checkFault(t, "("+word+";=x)", api.Fault{Code: api.ErrSyntax, At: len(word) + 2, Word: "="})
		checkFault(t, "("+word+";b;", api.Fault{Code: api.ErrShort, At: len(word) + 4})
		numbers := "1." + filled("2", api.MaxText+more) + "."
		checkFault(t, "("+numbers+"=x)", api.Fault{Code: api.ErrSyntax, At: len(numbers) + 1, Word: "="})
		checkFault(t, "(:"+numbers, api.Fault{Code: api.ErrShort, At: len(numbers) + 2})
		digits := filled("7", api.MaxText+more)
		checkFault(t, "("+digits+"=x)", api.Fault{Code: api.ErrSyntax, At: len(digits) + 1, Word: "="})
	}
}

// Values of MaxText bytes, as they are when they are read, and of one more.
func TestParseLongValues(t *testing.T) {
	values := map[string]string{
		filled("x", api.MaxText):                           filled("x", api.MaxText),
		filled(`\41`, api.MaxText):                         filled("A", api.MaxText),
		filled("\u00e9", api.MaxText/2):                    filled("\u00e9", api.MaxText/2),
		filled("x", api.MaxText-1) + `\2a`:                 filled("x", api.MaxText-1) + "*",
		filled(`\c3\a9`, api.MaxText/2):                    filled("\u00e9", api.MaxText/2),
		`\28` + filled("\ufffd", api.MaxText/3):            "(" + filled("\ufffd", api.MaxText/3),
		filled("\U0001f600", api.MaxText/4-1) + `\00\00xx`: filled("\U0001f600", api.MaxText/4-1) + "\x00\x00xx",
	}
	for s, value := range values {
		for sign, kind := range map[string]int8{"=": api.FEqual, "~=": api.FLike, ">=": api.FMore, "<=": api.FLess} {
			checkTaken(t, "(a"+sign+s+")", item(kind, "a", value))
		}
		checkTaken(t, "(a:dn:b:="+s+")", ruleDn("a", "b", value))
		checkTaken(t, "(a="+s+"*"+s+"*"+s+"*"+s+")", part("a", value, value, value, value))
		checkFault(t, "(a="+s, api.Fault{Code: api.ErrShort, At: 3 + len(s)})
		checkFault(t, "(a="+s+"*", api.Fault{Code: api.ErrShort, At: 4 + len(s)})
		for _, more := range []string{"x", `\41`, "\ufffd", filled("x", 10000)} {
			for _, long := range []string{more + s, s + more} {
				for _, ahead := range []string{"(a=", "(a~=", "(a>=", "(a<=", "(a:=", "(:b:=", "(&(a=)(!(a=", "(a=*", "(a=x**", "(a=" + s + "*"} {
					checkLong(t, ahead+long+")", len(ahead))
					checkLong(t, ahead+long, len(ahead))
					checkLong(t, ahead+long+")x", len(ahead))
				}
				checkLong(t, "(a="+long+"*", 3)
				checkLong(t, "(a="+long+"*(", 3)
				checkLong(t, "(a=*"+long+"*x)", 4)
				// What is not read to its end is not too long yet.
				checkFault(t, "(a="+long+"(", api.Fault{Code: api.ErrEscape, At: 3 + len(long), Word: "("})
				checkFault(t, "(a>="+long+"*)", api.Fault{Code: api.ErrEscape, At: 4 + len(long), Word: "*"})
				checkFault(t, "(a=*"+long+`\4)`, api.Fault{Code: api.ErrHex, At: 4 + len(long), Word: `\`})
				checkFault(t, "(a:="+long+"\xc3", api.Fault{Code: api.ErrUTF, At: 4 + len(long), Word: "\xc3"})
			}
		}
	}
}
