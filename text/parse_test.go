package text_test

import (
	"errors"
	"strings"
	"testing"

	"roster/api"
	"roster/text"
)

// The chapter's examples.
func TestParseExamples(t *testing.T) {
	for s, want := range map[string]api.Filter{
		"(cn=Babs Jensen)": equal("cn", "Babs Jensen"),
		"(!(cn=Tim))":      not(equal("cn", "Tim")),
		"(&(objectClass=Person)(|(sn=Jensen)(cn=Babs J*)))": and(equal("objectClass", "Person"), or(equal("sn", "Jensen"), part("cn", "Babs J", ""))),
		"(o=univ*of*mich*)":             part("o", "univ", "", "of", "mich"),
		"(o=*)":                         have("o"),
		"(o=**)":                        have("o"),
		"(o=*a**b*)":                    part("o", "", "", "a", "b"),
		"(seeAlso=)":                    equal("seeAlso", ""),
		"(cn:caseExactMatch:=Fred)":     rule("cn", "caseExactMatch", "Fred"),
		"(cn:=Betty)":                   rule("cn", "", "Betty"),
		"(sn:dn:2.4.6.8.10:=Barney)":    ruleDn("sn", "2.4.6.8.10", "Barney"),
		"(o:DN:=Ace)":                   ruleDn("o", "", "Ace"),
		"(:1.2.3:=Wilma)":               rule("", "1.2.3", "Wilma"),
		"(:dn:2.4:=x)":                  ruleDn("", "2.4", "x"),
		`(o=Parens R Us \28for all\29)`: equal("o", "Parens R Us (for all)"),
		`(bin=\00\00\00\04)`:            equal("bin", "\x00\x00\x00\x04"),
		`(cn=A\2a*)`:                    part("cn", "A*", ""),
	} {
		checkTaken(t, s, want)
		if !checkParse(t, s) {
			t.Errorf("the model refuses %s", s)
		}
	}
	for s, want := range map[string]api.Fault{
		"cn=a":          {Code: api.ErrSyntax, At: 0, Word: "c"},
		"(cn=a":         {Code: api.ErrShort, At: 5},
		"(cn=a))":       {Code: api.ErrSyntax, At: 6, Word: ")"},
		"()":            {Code: api.ErrSyntax, At: 1, Word: ")"},
		"(&)":           {Code: api.ErrSyntax, At: 2, Word: ")"},
		"(!(a=b)(c=d))": {Code: api.ErrSyntax, At: 7, Word: "("},
		"(a=b(c)":       {Code: api.ErrEscape, At: 4, Word: "("},
		"(a>=*)":        {Code: api.ErrEscape, At: 4, Word: "*"},
		"(1=x)":         {Code: api.ErrSyntax, At: 2, Word: "="},
		"(a;=x)":        {Code: api.ErrSyntax, At: 3, Word: "="},
		"(:dn:=v)":      {Code: api.ErrSyntax, At: 5, Word: "="},
		"(a:b:dn:=v)":   {Code: api.ErrSyntax, At: 5, Word: "d"},
		"(a:dn:dn":      {Code: api.ErrSyntax, At: 6, Word: "d"},
		`(a=\4)`:        {Code: api.ErrHex, At: 3, Word: `\`},
	} {
		checkFault(t, s, want)
		if model := modelFault(s); model != want {
			t.Errorf("the model tells %v of %s", &model, s)
		}
	}
}

// What is at fault is an *api.Fault, and its code is found in it.
func TestParseFaultIsAsked(t *testing.T) {
	_, err := text.Parse("(cn=a")
	if fault, ok := err.(*api.Fault); !ok || fault.Code != api.ErrShort || !errors.Is(err, api.ErrShort) {
		t.Errorf("%T %v", err, err)
	}
	if _, err := text.Parse("(cn=a)"); err != nil {
		t.Errorf("%T %v", err, err)
	}
}

func TestParseItems(t *testing.T) {
	for s, want := range map[string]api.Filter{
		"(a=b)":                  equal("a", "b"),
		"(a~=b)":                 item(api.FLike, "a", "b"),
		"(a>=b)":                 item(api.FMore, "a", "b"),
		"(a<=b)":                 item(api.FLess, "a", "b"),
		"(a~=)":                  item(api.FLike, "a", ""),
		"(a>=)":                  item(api.FMore, "a", ""),
		"(a<=)":                  item(api.FLess, "a", ""),
		"(a:=)":                  rule("a", "", ""),
		"(a==)":                  equal("a", "="),
		"(a=>=:=~)":              equal("a", ">=:=~"),
		"(a>=>=)":                item(api.FMore, "a", ">="),
		"(a:=:dn:b:=)":           rule("a", "", ":dn:b:="),
		"(a=&|!;,<>)":            equal("a", "&|!;,<>"),
		"(a= b )":                equal("a", " b "),
		"(a=\n\t\x01\x7f)":       equal("a", "\n\t\x01\x7f"),
		"(a=é€😀\ufffd\u0080)":    equal("a", "é€😀\ufffd\u0080"),
		`(a=\c3\a9)`:             equal("a", "é"),
		`(a=\c3é\A9\Ff\fF)`:      equal("a", "\xc3é\xa9\xff\xff"),
		`(a=\5c2a\2a\5C)`:        equal("a", `\2a*\`),
		`(a=\41B\430)`:           equal("a", "ABC0"),
		"(dn=x)":                 equal("dn", "x"),
		"(DN;dn=x)":              equal("DN;dn", "x"),
		"(dn:dn:=x)":             ruleDn("dn", "", "x"),
		"(a;b;C;-;9=x)":          equal("a;b;C;-;9", "x"),
		"(a;b;b=x)":              equal("a;b;b", "x"),
		"(a--9-Z-=x)":            equal("a--9-Z-", "x"),
		"(0.0;x=x)":              equal("0.0;x", "x"),
		"(1.0.10.200=x)":         equal("1.0.10.200", "x"),
		"(0.12345678901234567=)": equal("0.12345678901234567", ""),
	} {
		checkTaken(t, s, want)
		if !checkParse(t, s) {
			t.Errorf("the model refuses %s", s)
		}
	}
}

func TestParsePieces(t *testing.T) {
	for s, want := range map[string]api.Filter{
		"*":            have("a"),
		"**":           have("a"),
		"*****":        have("a"),
		"x*":           part("a", "x", ""),
		"*x":           part("a", "", "x"),
		"x*y":          part("a", "x", "y"),
		"*x*":          part("a", "", "", "x"),
		"x**":          part("a", "x", ""),
		"**x":          part("a", "", "x"),
		"**x**":        part("a", "", "", "x"),
		"x***y":        part("a", "x", "y"),
		"x*y*z":        part("a", "x", "z", "y"),
		"**x**y***z**": part("a", "", "", "x", "y", "z"),
		"w**x**y***z":  part("a", "w", "z", "x", "y"),
		"*x*x*x*":      part("a", "", "", "x", "x", "x"),
		" * * ":        part("a", " ", " ", " "),
		`\2a*\2a*\2A`:  part("a", "*", "*", "*"),
		`\2a`:          equal("a", "*"),
		`\00*`:         part("a", "\x00", ""),
		`\28*\29*\5c`:  part("a", "(", `\`, ")"),
		"é*€*😀":        part("a", "é", "😀", "€"),
		"=*:=":         part("a", "=", ":="),
	} {
		checkTaken(t, "(a="+s+")", want)
		if !checkParse(t, "(a="+s+")") {
			t.Errorf("the model refuses %s", s)
		}
	}
	for _, sign := range []string{"~=", ">=", "<=", ":=", ":b:=", ":dn:=", ":dn:b:="} {
		for s, at := range map[string]int{"*": 0, "**": 0, "x*": 1, "*x": 0, "é*": 2, `\2a*`: 3, "x*(": 1} {
			ahead := "(a" + sign
			for _, behind := range []string{")", "", "x)", `\`} {
				checkFault(t, ahead+s+behind, api.Fault{Code: api.ErrEscape, At: len(ahead) + at, Word: "*"})
			}
		}
	}
}

func TestParseDn(t *testing.T) {
	for _, dn := range []string{"dn", "dN", "Dn", "DN"} {
		checkTaken(t, "(a:"+dn+":=v)", ruleDn("a", "", "v"))
		checkTaken(t, "(a:"+dn+":b:=v)", ruleDn("a", "b", "v"))
		checkTaken(t, "(:"+dn+":b:=v)", ruleDn("", "b", "v"))
		checkTaken(t, "(:"+dn+":1.2:=)", ruleDn("", "1.2", ""))
		for _, ahead := range []string{"(a:dn:", "(a;x:DN:", "(:dn:", "(:Dn:", "(1.2:dN:"} {
			for _, behind := range []string{"", ":", ":=", ":=v)", ":b:=v)", "=v)", ")", "(", ";x", "é", "\x00", "\xff", ".1", " "} {
				checkFault(t, ahead+dn+behind, api.Fault{Code: api.ErrSyntax, At: len(ahead), Word: dn[:1]})
			}
			for _, near := range []string{"d", "n", dn + "x", dn + "-", dn + "0", "x" + dn, "-"} {
				checkParse(t, ahead+near)
				checkParse(t, ahead+near+":=v)")
			}
		}
		for _, near := range []string{"d", "n", dn + "x", dn + "-", dn + "0", "x" + dn, dn + dn} {
			checkTaken(t, "(a:"+near+":=v)", rule("a", near, "v"))
			checkTaken(t, "(:"+near+":=v)", rule("", near, "v"))
			checkTaken(t, "(:"+dn+":"+near+":=v)", ruleDn("", near, "v"))
		}
		checkFault(t, "(:"+dn, api.Fault{Code: api.ErrShort, At: 4})
		checkFault(t, "(a:"+dn, api.Fault{Code: api.ErrShort, At: 5})
		checkFault(t, "(:"+dn+":", api.Fault{Code: api.ErrShort, At: 5})
		checkFault(t, "(:"+dn+"=", api.Fault{Code: api.ErrSyntax, At: 4, Word: "="})
		checkFault(t, "(a:"+dn+"=v)", api.Fault{Code: api.ErrSyntax, At: 5, Word: "="})
		checkFault(t, "(a:"+dn+";x:=v)", api.Fault{Code: api.ErrSyntax, At: 5, Word: ";"})
		checkFault(t, "(a:b:"+dn+":=v)", api.Fault{Code: api.ErrSyntax, At: 5, Word: dn[:1]})
		checkFault(t, "(:b:"+dn, api.Fault{Code: api.ErrSyntax, At: 4, Word: dn[:1]})
	}
	for s, want := range map[string]api.Fault{
		"(:":         {Code: api.ErrShort, At: 2},
		"(:=v)":      {Code: api.ErrSyntax, At: 2, Word: "="},
		"(::=v)":     {Code: api.ErrSyntax, At: 2, Word: ":"},
		"(a::=v)":    {Code: api.ErrSyntax, At: 3, Word: ":"},
		"(a:b::=v)":  {Code: api.ErrSyntax, At: 5, Word: ":"},
		"(a:b:c:=v)": {Code: api.ErrSyntax, At: 5, Word: "c"},
		"(a:b=v)":    {Code: api.ErrSyntax, At: 4, Word: "="},
		"(a:b)":      {Code: api.ErrSyntax, At: 4, Word: ")"},
		"(a:b":       {Code: api.ErrShort, At: 4},
		"(a:b:":      {Code: api.ErrShort, At: 5},
		"(a:1:=v)":   {Code: api.ErrSyntax, At: 4, Word: ":"},
		"(a:1.:=v)":  {Code: api.ErrSyntax, At: 5, Word: ":"},
		"(a:b;x:=v)": {Code: api.ErrSyntax, At: 4, Word: ";"},
		"(a;x":       {Code: api.ErrShort, At: 4},
	} {
		checkFault(t, s, want)
	}
}

func TestParseWords(t *testing.T) {
	for s, want := range map[string]api.Fault{
		"(":          {Code: api.ErrShort, At: 1},
		"(a":         {Code: api.ErrShort, At: 2},
		"(a;":        {Code: api.ErrShort, At: 3},
		"(a;;b=)":    {Code: api.ErrSyntax, At: 3, Word: ";"},
		"(a;b;=)":    {Code: api.ErrSyntax, At: 5, Word: "="},
		"(a;b;":      {Code: api.ErrShort, At: 5},
		"(;b=)":      {Code: api.ErrSyntax, At: 1, Word: ";"},
		"(a;b_=)":    {Code: api.ErrSyntax, At: 4, Word: "_"},
		"(a;b.c=)":   {Code: api.ErrSyntax, At: 4, Word: "."},
		"(a.b=)":     {Code: api.ErrSyntax, At: 2, Word: "."},
		"(-a=)":      {Code: api.ErrSyntax, At: 1, Word: "-"},
		"(=)":        {Code: api.ErrSyntax, At: 1, Word: "="},
		"(a b=)":     {Code: api.ErrSyntax, At: 2, Word: " "},
		"( a=)":      {Code: api.ErrSyntax, At: 1, Word: " "},
		"(a =)":      {Code: api.ErrSyntax, At: 2, Word: " "},
		"(aé=)":      {Code: api.ErrSyntax, At: 2, Word: "\xc3"},
		"(\u212a=)":  {Code: api.ErrSyntax, At: 1, Word: "\xe2"},
		"(a\x00=)":   {Code: api.ErrSyntax, At: 2, Word: "\x00"},
		"(\x00":      {Code: api.ErrSyntax, At: 1, Word: "\x00"},
		"(1":         {Code: api.ErrShort, At: 2},
		"(1.":        {Code: api.ErrShort, At: 3},
		"(1.2":       {Code: api.ErrShort, At: 4},
		"(1.2.":      {Code: api.ErrShort, At: 5},
		"(0":         {Code: api.ErrShort, At: 2},
		"(00":        {Code: api.ErrSyntax, At: 2, Word: "0"},
		"(01.2=x)":   {Code: api.ErrSyntax, At: 2, Word: "1"},
		"(1.02=x)":   {Code: api.ErrSyntax, At: 4, Word: "2"},
		"(1.00=x)":   {Code: api.ErrSyntax, At: 4, Word: "0"},
		"(1.2.01=x)": {Code: api.ErrSyntax, At: 6, Word: "1"},
		"(1.=x)":     {Code: api.ErrSyntax, At: 3, Word: "="},
		"(1.2.=x)":   {Code: api.ErrSyntax, At: 5, Word: "="},
		"(1..2=x)":   {Code: api.ErrSyntax, At: 3, Word: "."},
		"(.1=x)":     {Code: api.ErrSyntax, At: 1, Word: "."},
		"(1.a=x)":    {Code: api.ErrSyntax, At: 3, Word: "a"},
		"(1a=x)":     {Code: api.ErrSyntax, At: 2, Word: "a"},
		"(1.2a=x)":   {Code: api.ErrSyntax, At: 4, Word: "a"},
		"(1.2-=x)":   {Code: api.ErrSyntax, At: 4, Word: "-"},
		"(1;x=x)":    {Code: api.ErrSyntax, At: 2, Word: ";"},
		"(a~":        {Code: api.ErrShort, At: 3},
		"(a>":        {Code: api.ErrShort, At: 3},
		"(a<":        {Code: api.ErrShort, At: 3},
		"(a~b)":      {Code: api.ErrSyntax, At: 3, Word: "b"},
		"(a>>=b)":    {Code: api.ErrSyntax, At: 3, Word: ">"},
		"(a<>b)":     {Code: api.ErrSyntax, At: 3, Word: ">"},
		"(a!=b)":     {Code: api.ErrSyntax, At: 2, Word: "!"},
		"(a)":        {Code: api.ErrSyntax, At: 2, Word: ")"},
		"(a(":        {Code: api.ErrSyntax, At: 2, Word: "("},
		"(a*":        {Code: api.ErrSyntax, At: 2, Word: "*"},
	} {
		checkFault(t, s, want)
		for _, ahead := range []string{"(!", "(&", "(|(a=)", "(&(!(a=))(|"} {
			want := want
			want.At += len(ahead)
			checkFault(t, ahead+s, want)
		}
	}
}

func TestParseParts(t *testing.T) {
	for s, want := range map[string]api.Fault{
		"":              {Code: api.ErrShort, At: 0},
		" (a=)":         {Code: api.ErrSyntax, At: 0, Word: " "},
		")":             {Code: api.ErrSyntax, At: 0, Word: ")"},
		"&(a=)":         {Code: api.ErrSyntax, At: 0, Word: "&"},
		"\x00":          {Code: api.ErrSyntax, At: 0, Word: "\x00"},
		"\xff":          {Code: api.ErrSyntax, At: 0, Word: "\xff"},
		"((a=))":        {Code: api.ErrSyntax, At: 1, Word: "("},
		"((":            {Code: api.ErrSyntax, At: 1, Word: "("},
		"(&":            {Code: api.ErrShort, At: 2},
		"(|":            {Code: api.ErrShort, At: 2},
		"(!":            {Code: api.ErrShort, At: 2},
		"(|)":           {Code: api.ErrSyntax, At: 2, Word: ")"},
		"(!)":           {Code: api.ErrSyntax, At: 2, Word: ")"},
		"(&a=)":         {Code: api.ErrSyntax, At: 2, Word: "a"},
		"(!a=)":         {Code: api.ErrSyntax, At: 2, Word: "a"},
		"(& (a=))":      {Code: api.ErrSyntax, At: 2, Word: " "},
		"(&(a=) )":      {Code: api.ErrSyntax, At: 6, Word: " "},
		"(&(a=)":        {Code: api.ErrShort, At: 6},
		"(&(a=)a":       {Code: api.ErrSyntax, At: 6, Word: "a"},
		"(&(a=)&":       {Code: api.ErrSyntax, At: 6, Word: "&"},
		"(&(a=)(":       {Code: api.ErrShort, At: 7},
		"(!(a=)":        {Code: api.ErrShort, At: 6},
		"(!(a=)a":       {Code: api.ErrSyntax, At: 6, Word: "a"},
		"(!(a=)(":       {Code: api.ErrSyntax, At: 6, Word: "("},
		"(&(!(a=)":      {Code: api.ErrShort, At: 8},
		"(a=)(":         {Code: api.ErrSyntax, At: 4, Word: "("},
		"(a=)(b=)":      {Code: api.ErrSyntax, At: 4, Word: "("},
		"(a=) ":         {Code: api.ErrSyntax, At: 4, Word: " "},
		"(a=)\x00":      {Code: api.ErrSyntax, At: 4, Word: "\x00"},
		"(a=)\xc3":      {Code: api.ErrSyntax, At: 4, Word: "\xc3"},
		"(&(a=)))":      {Code: api.ErrSyntax, At: 7, Word: ")"},
		"(&(|)(a=))":    {Code: api.ErrSyntax, At: 4, Word: ")"},
		"(&(a=)(b))":    {Code: api.ErrSyntax, At: 8, Word: ")"},
		"(!(!(!(a=))":   {Code: api.ErrShort, At: 11},
		"(&(a=)(b=\\4)": {Code: api.ErrHex, At: 9, Word: `\`},
	} {
		checkFault(t, s, want)
	}
	a, b := equal("a", ""), have("b")
	for s, want := range map[string]api.Filter{
		"(&(a=))":                     and(a),
		"(|(a=)(b=*)(a=))":            or(a, b, a),
		"(!(!(a=)))":                  not(not(a)),
		"(&(|(a=)(b=*))(!(&(b=*))))":  and(or(a, b), not(and(b))),
		"(|(&(a=))(|(a=))(!(a=)))":    or(and(a), or(a), not(a)),
		"(&(a=)(&(a=)(&(a=)(b=*))))":  and(a, and(a, and(a, b))),
		"(&(&(&(b=*)(a=))(a=))(a=))":  and(and(and(b, a), a), a),
		"(!(&(!(|(!(a=))(!(b=*))))))": not(and(not(or(not(a), not(b))))),
	} {
		checkTaken(t, s, want)
	}
}

func TestParseBrokenValues(t *testing.T) {
	cut := []string{"\xc3", "\xe2", "\xe2\x82", "\xf0", "\xf0\x9f", "\xf0\x9f\x98", "\xef", "\xef\xbf"}
	broken := append([]string{"\xff", "\x80", "\xc0\x80", "\xed\xa0\x80", "\xf4\x90\x80\x80", "\xe2\x28\xa1", "\xef\xbf("}, cut...)
	for _, ahead := range []string{"(a=", "(a=x", "(a=*", "(a=x*y*", "(a>=", "(a~=é", `(a<=\2a`, "(a:=", "(:b:=", "(a:dn:b:=\ufffd", "(&(a=)(b=*)(!(a="} {
		for _, b := range broken {
			for _, behind := range []string{"", ")", "x)", "*", "(", `\`} {
				checkFault(t, ahead+b+behind, api.Fault{Code: api.ErrUTF, At: len(ahead), Word: b[:1]})
			}
		}
		for _, b := range []string{`\`, `\4`, `\)`, `\4)`, `\g0`, `\0g`, `\G0)`, `\ 20)`, `\(`, `\*`, `\\`, `\\28)`, `\4*`, "\\\x00", "\\é", "\\\xff", "\\4\xff", `\:0`, `\/0`, `\@0`, "\\`0"} {
			checkFault(t, ahead+b, api.Fault{Code: api.ErrHex, At: len(ahead), Word: `\`})
		}
		for _, b := range []string{"(", "\x00"} {
			for _, behind := range []string{"", ")", "x)", "*", "\xff", `\`} {
				checkFault(t, ahead+b+behind, api.Fault{Code: api.ErrEscape, At: len(ahead), Word: b})
			}
		}
		// The first that is refused counts.
		for _, good := range []string{"x", "é", `\ff`, `\28`, "\ufffd", "x y"} {
			checkFault(t, ahead+good+"\xff\x00", api.Fault{Code: api.ErrUTF, At: len(ahead + good), Word: "\xff"})
			checkFault(t, ahead+good+`\zz(`, api.Fault{Code: api.ErrHex, At: len(ahead + good), Word: `\`})
			checkFault(t, ahead+good+`(\zz`, api.Fault{Code: api.ErrEscape, At: len(ahead + good), Word: "("})
			checkFault(t, ahead+good, api.Fault{Code: api.ErrShort, At: len(ahead + good)})
		}
	}
}

// Each byte at each place of the grammar.
func TestParseEachByte(t *testing.T) {
	for b := range 256 {
		c := string([]byte{byte(b)})
		for _, ahead := range []string{
			"", "(", "(&", "(!", "(&(a=)", "(!(a=)", "(a=)", "(a", "(a-", "(0", "(1", "(10", "(1.", "(1.0", "(1.2", "(1.2.", "(a;", "(a;x", "(1.2;x", "(a~", "(a>", "(a<", "(a=", "(a=x", "(a=*", "(a=*x", "(a>=", "(a>=x",
			"(:", "(:b", "(:b:", "(:1", "(:1.", "(:1.2", "(:dn", "(:dn:", "(:dn:d", "(:dn:dn", "(:dn:b", "(:dn:b:", "(a:", "(a:b", "(a:b:", "(a:0", "(a:0.", "(a:0.1", "(a:d", "(a:dn", "(a:dn:", "(a:dn:dn", "(a:dn:b", "(a:dn:b:", "(a:=", "(:b:=x", `(a=\`, `(a=\4`, `(a=\41`, `(a>=\`, `(a:=\F`, "(a=\xc3", "(a=\xe2\x82", "(a=\xef\xbf",
		} {
			for _, behind := range []string{"", ")", "=)", "a", "(a=))"} {
				checkParse(t, ahead+c+behind)
			}
		}
	}
}

// All texts that the signs that count make, as far as they are begun well, and one sign more.
func TestParseAllShort(t *testing.T) {
	taken, refused := 0, 0
	var grow func(s string, more int)
	grow = func(s string, more int) {
		if checkParse(t, s) {
			taken++
		} else {
			refused++
		}
		_, known := modelFilter(s)
		if more == 0 || t.Failed() || !known && modelFault(s).Code != api.ErrShort {
			return
		}
		for _, sign := range []string{"(", ")", "&", "!", "a", "dn", "0", "1", ".", "-", ";", ":", "=", "<", "*", `\2`, "\xc3", "\xa9"} {
			grow(s+sign, more-1)
		}
	}
	grow("", 6)
	for _, s := range []string{"(a=", "(a>=", "(a:", "(:dn:", "(a:dn:", "(1.", "(&(a=)", "(!(a=)", "(a;x", "(a:b:"} {
		grow(s, 4)
	}
	if taken < 1000 || refused < 50000 {
		t.Errorf("%d are taken, %d refused", taken, refused)
	}
}

// Texts of filters by chance, and those with something changed, cut away or laid in.
func TestParseMixed(t *testing.T) {
	d := diceOf(3)
	taken, refused := 0, 0
	for range 8000 {
		f := d.filter(4)
		s := d.loose(f)
		checkTaken(t, s, f)
		checkBack(t, s)
		if len(s) > 60 {
			continue
		}
		at, to := d.Intn(len(s)), d.Intn(len(s))
		piece := d.pick("(", ")", "*", `\`, "&", "!", ":", ":dn", "=", ";", ".", "0", "x", "\xff", "é", "\x00", s[min(at, to):max(at, to)])
		for _, broken := range []string{s[:at], s[:at] + piece + s[at:], s[:at] + piece + s[at+1:], s[:min(at, to)] + s[max(at, to):], s + piece} {
			if checkParse(t, broken) {
				taken++
			} else {
				refused++
			}
		}
	}
	if taken < 2000 || refused < 10000 {
		t.Errorf("%d are taken, %d refused", taken, refused)
	}
}

// P4: any bytes at all.
func TestParseAnyBytes(t *testing.T) {
	d := diceOf(4)
	for range 3000 {
		bytes := make([]byte, d.Intn(30))
		d.Read(bytes)
		checkParse(t, string(bytes))
		checkParse(t, "(a="+strings.ReplaceAll(string(bytes), ")", "")+")")
	}
}
