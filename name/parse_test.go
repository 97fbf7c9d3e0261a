package name_test

import (
	"math/rand"
	"strings"
	"testing"

	"roster/api"
	"roster/name"
)

func TestParseExamples(t *testing.T) {
	n := mustParse(t, `cn=Ada \2B x+ou=a\,b,ou=`)
	if want := named(pairs("cn", "Ada + x", "ou", "a,b"), pairs("ou", "")); !same(n, want) {
		t.Errorf("%q", n)
	}
	if n := mustParse(t, ""); len(n.Rdns) != 0 {
		t.Errorf("%q", n)
	}
	for s, want := range map[string]api.Fault{
		"cn":       {Code: api.ErrShort, At: 2},
		"cn= a":    {Code: api.ErrSyntax, At: 3, Word: " "},
		"cn=a ":    {Code: api.ErrSyntax, At: 4, Word: " "},
		"cn=a,":    {Code: api.ErrShort, At: 5},
		"=a":       {Code: api.ErrSyntax, At: 0, Word: "="},
		"cn=#a":    {Code: api.ErrSyntax, At: 3, Word: "#"},
		`cn=a\zz`:  {Code: api.ErrHex, At: 4, Word: `\`},
		"cn=a;b":   {Code: api.ErrSyntax, At: 4, Word: ";"},
		"cn =a":    {Code: api.ErrSyntax, At: 2, Word: " "},
		"\xc3\xa9": {Code: api.ErrSyntax, At: 0, Word: "\xc3"},
	} {
		n, err := name.Parse(s)
		checkFault(t, s, n, err, want)
	}
}

func TestParseOfValues(t *testing.T) {
	for text, want := range map[string]string{
		"":                      "",
		"a":                     "a",
		"a b":                   "a b",
		"a  b":                  "a  b",
		"a=b":                   "a=b",
		"=":                     "=",
		"==#":                   "==#",
		"a#":                    "a#",
		`\ `:                    " ",
		`\20`:                   " ",
		`\  \ `:                 "   ",
		`\ a\ `:                 " a ",
		`a \ `:                  "a  ",
		`\#`:                    "#",
		`\23`:                   "#",
		`\"\+\,\;\<\>\=\#\ \\`:  "\"+,;<>=# \\",
		`\22\2b\2C\3b\3C\3e\5c`: "\"+,;<>\\",
		`\00\1f\7F\fF\Ff`:       "\x00\x1f\x7f\xff\xff",
		`\0a0`:                  "\n0",
		`\aAb`:                  "\xaab",
		"\x01\x1f\x7f":          "\x01\x1f\x7f",
		"\xff\xc3\xa9\x80":      "\xff\xc3\xa9\x80",
		`\c3` + "\xa9":          "é",
		"(*)!&|'/:?-._":         "(*)!&|'/:?-._",
		"\t":                    "\t",
		"\n":                    "\n",
		"\u00a0":                "\u00a0",
		`\\\ `:                  `\ `,
	} {
		for _, around := range [][2]string{{"", ""}, {"ou=x,", ""}, {"ou=x+", ""}, {"", ",ou=x"}, {"", "+ou=x"}} {
			n := mustParse(t, around[0]+"cn="+text+around[1])
			found := false
			for _, r := range n.Rdns {
				for _, a := range r.Avas {
					if a.Type == "cn" {
						found = a.Value == want
					}
				}
			}
			if !found {
				t.Errorf("%q: %q", text, n)
			}
		}
	}
}

func TestParseOfTypes(t *testing.T) {
	for _, word := range []string{"a", "Z", "z9", "a-", "a--b-", "A1-2", "0.0", "1.0", "0.1", "10.20.300", "2.5.4.3", "1.0.10", "9.90", "123456789012345678901234567890.1", "commonName"} {
		n := mustParse(t, word+"=v")
		if !same(n, named(pairs(word, "v"))) {
			t.Errorf("%q: %q", word, n)
		}
	}
	for text, want := range map[string]api.Fault{
		"1=a":     {Code: api.ErrSyntax, At: 1, Word: "="},
		"1":       {Code: api.ErrShort, At: 1},
		"1.":      {Code: api.ErrShort, At: 2},
		"1.2":     {Code: api.ErrShort, At: 3},
		"1.=":     {Code: api.ErrSyntax, At: 2, Word: "="},
		"1..2=":   {Code: api.ErrSyntax, At: 2, Word: "."},
		".1=":     {Code: api.ErrSyntax, At: 0, Word: "."},
		"01.2=":   {Code: api.ErrSyntax, At: 1, Word: "1"},
		"00":      {Code: api.ErrSyntax, At: 1, Word: "0"},
		"0":       {Code: api.ErrShort, At: 1},
		"0=":      {Code: api.ErrSyntax, At: 1, Word: "="},
		"1.00=":   {Code: api.ErrSyntax, At: 3, Word: "0"},
		"1.01=":   {Code: api.ErrSyntax, At: 3, Word: "1"},
		"1.2.=":   {Code: api.ErrSyntax, At: 4, Word: "="},
		"1a=":     {Code: api.ErrSyntax, At: 1, Word: "a"},
		"1.a=":    {Code: api.ErrSyntax, At: 2, Word: "a"},
		"1.2a=":   {Code: api.ErrSyntax, At: 3, Word: "a"},
		"1.2-=":   {Code: api.ErrSyntax, At: 3, Word: "-"},
		"-a=":     {Code: api.ErrSyntax, At: 0, Word: "-"},
		"a.b=":    {Code: api.ErrSyntax, At: 1, Word: "."},
		"a_b=":    {Code: api.ErrSyntax, At: 1, Word: "_"},
		"a;b=":    {Code: api.ErrSyntax, At: 1, Word: ";"},
		"cn,":     {Code: api.ErrSyntax, At: 2, Word: ","},
		"cn+":     {Code: api.ErrSyntax, At: 2, Word: "+"},
		" cn=a":   {Code: api.ErrSyntax, At: 0, Word: " "},
		",":       {Code: api.ErrSyntax, At: 0, Word: ","},
		"+":       {Code: api.ErrSyntax, At: 0, Word: "+"},
		`\`:       {Code: api.ErrSyntax, At: 0, Word: `\`},
		"a=,":     {Code: api.ErrShort, At: 3},
		"a=+":     {Code: api.ErrShort, At: 3},
		"a=,,":    {Code: api.ErrSyntax, At: 3, Word: ","},
		"a=+,":    {Code: api.ErrSyntax, At: 3, Word: ","},
		"a=, b=":  {Code: api.ErrSyntax, At: 3, Word: " "},
		"a=,b":    {Code: api.ErrShort, At: 4},
		"a=+1":    {Code: api.ErrShort, At: 4},
		"a=+1=":   {Code: api.ErrSyntax, At: 4, Word: "="},
		"aé=":     {Code: api.ErrSyntax, At: 1, Word: "\xc3"},
		"\u212a=": {Code: api.ErrSyntax, At: 0, Word: "\xe2"},
		"a\x00=":  {Code: api.ErrSyntax, At: 1, Word: "\x00"},
	} {
		n, err := name.Parse(text)
		checkFault(t, text, n, err, want)
	}
}

func TestParseOfWrongValues(t *testing.T) {
	for text, want := range map[string]api.Fault{
		" ":        {Code: api.ErrSyntax, At: 0, Word: " "},
		"  ":       {Code: api.ErrSyntax, At: 0, Word: " "},
		" ,b=":     {Code: api.ErrSyntax, At: 0, Word: " "},
		"#":        {Code: api.ErrSyntax, At: 0, Word: "#"},
		"#,b=":     {Code: api.ErrSyntax, At: 0, Word: "#"},
		"a ,b=":    {Code: api.ErrSyntax, At: 1, Word: " "},
		"a   ,b=":  {Code: api.ErrSyntax, At: 3, Word: " "},
		"a +b=":    {Code: api.ErrSyntax, At: 1, Word: " "},
		"a   ":     {Code: api.ErrSyntax, At: 3, Word: " "},
		`\  `:      {Code: api.ErrSyntax, At: 2, Word: " "},
		`\20 `:     {Code: api.ErrSyntax, At: 3, Word: " "},
		`a\   ,b=`: {Code: api.ErrSyntax, At: 4, Word: " "},
		`\\ `:      {Code: api.ErrSyntax, At: 2, Word: " "},
		`\, +b=`:   {Code: api.ErrSyntax, At: 2, Word: " "},
		"a ;":      {Code: api.ErrSyntax, At: 2, Word: ";"},
		`a \`:      {Code: api.ErrHex, At: 2, Word: `\`},
		"a \x00":   {Code: api.ErrSyntax, At: 2, Word: "\x00"},
		"\x00":     {Code: api.ErrSyntax, At: 0, Word: "\x00"},
		"a\"":      {Code: api.ErrSyntax, At: 1, Word: "\""},
		"a<":       {Code: api.ErrSyntax, At: 1, Word: "<"},
		"a>":       {Code: api.ErrSyntax, At: 1, Word: ">"},
		`\`:        {Code: api.ErrHex, At: 0, Word: `\`},
		`a\`:       {Code: api.ErrHex, At: 1, Word: `\`},
		`\\\`:      {Code: api.ErrHex, At: 2, Word: `\`},
		`\4`:       {Code: api.ErrHex, At: 0, Word: `\`},
		`\4,b=`:    {Code: api.ErrHex, At: 0, Word: `\`},
		`\4g`:      {Code: api.ErrHex, At: 0, Word: `\`},
		`\g4`:      {Code: api.ErrHex, At: 0, Word: `\`},
		`\G`:       {Code: api.ErrHex, At: 0, Word: `\`},
		`\:0`:      {Code: api.ErrHex, At: 0, Word: `\`},
		`\0:`:      {Code: api.ErrHex, At: 0, Word: `\`},
		`\/0`:      {Code: api.ErrHex, At: 0, Word: `\`},
		`\@0`:      {Code: api.ErrHex, At: 0, Word: `\`},
		"\\`0":     {Code: api.ErrHex, At: 0, Word: `\`},
		"\\\x00":   {Code: api.ErrHex, At: 0, Word: `\`},
		"\\\xff":   {Code: api.ErrHex, At: 0, Word: `\`},
		"\\é":      {Code: api.ErrHex, At: 0, Word: `\`},
		"a\\ ,":    {Code: api.ErrShort, At: 4},
		"a;\\":     {Code: api.ErrSyntax, At: 1, Word: ";"},
		"\\zz;":    {Code: api.ErrHex, At: 0, Word: `\`},
	} {
		for _, ahead := range []string{"cn=", "ou=x,cn=", "ou=x+cn="} {
			want := want
			want.At += len(ahead)
			n, err := name.Parse(ahead + text)
			checkFault(t, ahead+text, n, err, want)
		}
	}
}

func TestParseOfEachByte(t *testing.T) {
	for b := range 256 {
		s := string([]byte{byte(b)})
		for _, text := range []string{
			s, s + "=", "a" + s, "a" + s + "=", "1" + s, "0" + s, "1" + s + "2=", "1." + s, "1.2" + s, "1.0" + s, "1.2" + s + "3=", "a=" + s, "a=x" + s, "a=" + s + "x", "a=x" + s + "x",
			`a=\` + s, `a=\` + s + s, `a=\4` + s, `a=\` + s + "4", `a=\` + s + "x", `a=\\` + s, `a=\ ` + s, "a= " + s, "a=x " + s, "a=," + s, "a=+" + s, "a=,b=" + s,
		} {
			checkParse(t, text)
		}
	}
}

func TestParseOfAllShortTexts(t *testing.T) {
	for _, value := range rowsOf([]string{" ", `\`, ",", "+b=", "#", "4", "a", ";"}, 5) {
		checkParse(t, "b="+value)
	}
	for _, text := range rowsOf([]string{"a", "-", "0", "1", ".", "=", ","}, 5) {
		checkParse(t, text)
	}
}

func TestParseOfMixedTexts(t *testing.T) {
	r := rand.New(rand.NewSource(6))
	pieces := []string{"cn", "=", "cn=", "1.2=", ",", "+", " ", `\`, `\,`, `\20`, `\ `, "#", "x", "é", "\xff", "\x00", "\x01", ";", ",ou=", "+ou=", "0", "A"}
	for range 4000 {
		text := "cn="
		for range r.Intn(14) {
			text += pieces[r.Intn(len(pieces))]
		}
		checkParse(t, text)
	}
}

func TestParseOfManyParts(t *testing.T) {
	parts := func(n int) string { return strings.Repeat(",a=b", n)[min(1, n):] }
	pairs := func(n int) string { return strings.Repeat("+a=b", n)[min(1, n):] }
	if n := mustParse(t, parts(64)); len(n.Rdns) != 64 {
		t.Errorf("%d parts", len(n.Rdns))
	}
	if n := mustParse(t, pairs(8)); len(n.Rdns) != 1 || len(n.Rdns[0].Avas) != 8 {
		t.Errorf("%q", n)
	}
	full := pairs(8) + strings.Repeat(","+pairs(8), 63)
	if n := mustParse(t, full); len(n.Rdns) != 64 || len(n.Rdns[63].Avas) != 8 {
		t.Errorf("%d parts", len(n.Rdns))
	}
	for text, want := range map[string]api.Fault{
		parts(65):                   {Code: api.ErrLong, At: len(parts(64)), Word: ","},
		parts(64) + ",":             {Code: api.ErrLong, At: len(parts(64)), Word: ","},
		parts(64) + ",;":            {Code: api.ErrLong, At: len(parts(64)), Word: ","},
		parts(64) + " ,a=b":         {Code: api.ErrSyntax, At: len(parts(64)), Word: " "},
		parts(64) + ";":             {Code: api.ErrSyntax, At: len(parts(64)), Word: ";"},
		parts(64) + `\`:             {Code: api.ErrHex, At: len(parts(64)), Word: `\`},
		parts(64) + "+":             {Code: api.ErrShort, At: len(parts(64)) + 1},
		pairs(9):                    {Code: api.ErrLong, At: len(pairs(8)), Word: "+"},
		pairs(8) + "+":              {Code: api.ErrLong, At: len(pairs(8)), Word: "+"},
		pairs(8) + "+;":             {Code: api.ErrLong, At: len(pairs(8)), Word: "+"},
		pairs(8) + " +":             {Code: api.ErrSyntax, At: len(pairs(8)), Word: " "},
		pairs(8) + "," + pairs(9):   {Code: api.ErrLong, At: 2*len(pairs(8)) + 1, Word: "+"},
		pairs(9) + "," + parts(64):  {Code: api.ErrLong, At: len(pairs(8)), Word: "+"},
		full + ",a=b":               {Code: api.ErrLong, At: len(full), Word: ","},
		full + "+a=b":               {Code: api.ErrLong, At: len(full), Word: "+"},
		parts(10) + ";" + parts(80): {Code: api.ErrSyntax, At: len(parts(10)), Word: ";"},
	} {
		n, err := name.Parse(text)
		checkFault(t, text, n, err, want)
	}
	// Those that are escaped begin nothing.
	if n := mustParse(t, "a="+strings.Repeat(`\,\+\2c`, 100)); len(n.Rdns) != 1 || n.Rdns[0].Avas[0].Value != strings.Repeat(",+,", 100) {
		t.Errorf("%q", n)
	}
}

func TestParseOfLongTexts(t *testing.T) {
	fill := func(s string, n int) string { return strings.Repeat(s, n/len(s)+1)[:n] }
	for _, value := range []string{fill("x", api.MaxText-2), fill(`\2c`, api.MaxText-2)[:api.MaxText-4] + "xx", fill("=", api.MaxText-2), "x" + fill(" ", api.MaxText-4) + "x"} {
		n := mustParse(t, "a="+value)
		if n.Rdns[0].Avas[0].Value != meant(value) {
			t.Errorf("Parse(%s)", brief("a="+value))
		}
	}
	word := fill("a", api.MaxText-1)
	if n := mustParse(t, word+"="); n.Rdns[0].Avas[0].Type != word {
		t.Errorf("Parse(%s)", brief(word))
	}
	word = fill("1.", api.MaxText-2) + "7"
	if n := mustParse(t, word+"="); n.Rdns[0].Avas[0].Type != word {
		t.Errorf("Parse(%s)", brief(word))
	}
	for _, text := range []string{"a=" + fill("x", api.MaxText-1), fill(" ", api.MaxText+1), fill(";", 1<<20), fill("a=,", api.MaxText+1), fill(`\`, api.MaxText+1)} {
		n, err := name.Parse(text)
		checkFault(t, text, n, err, api.Fault{Code: api.ErrLong})
	}
	for text, want := range map[string]api.Fault{
		fill("a", api.MaxText):                 {Code: api.ErrShort, At: api.MaxText},
		fill("1", api.MaxText):                 {Code: api.ErrShort, At: api.MaxText},
		"a=" + fill("x", api.MaxText-3) + " ":  {Code: api.ErrSyntax, At: api.MaxText - 1, Word: " "},
		"a=x" + fill(" ", api.MaxText-3):       {Code: api.ErrSyntax, At: api.MaxText - 1, Word: " "},
		"a=" + fill("x", api.MaxText-3) + `\`:  {Code: api.ErrHex, At: api.MaxText - 1, Word: `\`},
		"a=" + fill("x", api.MaxText-4) + `\2`: {Code: api.ErrHex, At: api.MaxText - 2, Word: `\`},
		"a=" + fill("x", api.MaxText-3) + ",":  {Code: api.ErrShort, At: api.MaxText},
		"a=" + fill("x", api.MaxText-3) + ";":  {Code: api.ErrSyntax, At: api.MaxText - 1, Word: ";"},
	} {
		n, err := name.Parse(text)
		checkFault(t, text, n, err, want)
	}
}
