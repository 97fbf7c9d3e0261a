package schema_test

import (
	"errors"
	"fmt"
	"math/rand"
	"strings"
	"testing"

	"roster/api"
	"roster/schema"
)

// chapterSchema is the S of the chapter's examples.
const chapterSchema = `attributetype ( 2.5.4.0 NAME 'objectClass' EQUALITY objectIdentifierMatch SYNTAX 1.3.6.1.4.1.1466.115.121.1.38 )
attributetype ( 2.5.4.41 NAME 'name' EQUALITY caseIgnoreMatch SUBSTR caseIgnoreSubstringsMatch SYNTAX 1.3.6.1.4.1.1466.115.121.1.15 )
attributetype ( 2.5.4.3 NAME ( 'cn' 'commonName' ) SUP name SYNTAX 1.3.6.1.4.1.1466.115.121.1.15 X-INDEX ( 'equal' 'part' ) )
objectclass ( 2.5.6.0 NAME 'top' ABSTRACT MUST objectClass )
objectclass ( 2.5.6.6 NAME 'person' SUP top STRUCTURAL MUST cn MAY name )
`

const syn15 = "1.3.6.1.4.1.1466.115.121.1.15"

func checkFault(t *testing.T, text string, want *api.Fault) {
	t.Helper()
	s, err := schema.Parse(text)
	var fault *api.Fault
	switch {
	case want == nil && err != nil:
		t.Errorf("Parse(%s): %v", brief(text), err)
	case want == nil:
	case !errors.As(err, &fault):
		t.Errorf("Parse(%s): %v, want %v", brief(text), err, want)
	case *fault != *want || !errors.Is(err, want.Code):
		t.Errorf("Parse(%s): %v, want %v", brief(text), err, want)
	case s.Types != nil || s.Classes != nil:
		t.Errorf("Parse(%s) tells something beside %v", brief(text), err)
	}
}

func TestParseExamples(t *testing.T) {
	checkFault(t, "attributetype", &api.Fault{Code: api.ErrSyntax, At: 13})
	checkFault(t, "type", &api.Fault{Code: api.ErrWord, Word: "type"})
	checkFault(t, "objectclass ( 1.2 NAME x )", &api.Fault{Code: api.ErrSyntax, At: 23, Word: "x"})
	s := mustParse(t, chapterSchema)
	want := api.Schema{
		Types: []api.Type{
			{Oid: "2.5.4.0", Names: []string{"objectClass"}, Syntax: api.SynOid, Equal: api.RuleOid},
			{Oid: "2.5.4.41", Names: []string{"name"}, Syntax: api.SynText, Equal: api.RuleFold, Part: api.RuleFoldPart},
			{Oid: "2.5.4.3", Names: []string{"cn", "commonName"}, Sup: "name", Syntax: api.SynText, Index: api.IxEqual | api.IxPart},
		},
		Classes: []api.Class{
			{Oid: "2.5.6.0", Names: []string{"top"}, Kind: api.ClAbstract, Must: []string{"objectClass"}},
			{Oid: "2.5.6.6", Names: []string{"person"}, Sups: []string{"top"}, Kind: api.ClStructural, Must: []string{"cn"}, May: []string{"name"}},
		},
	}
	if !sameSchema(s, want) {
		t.Errorf("S is %+v", s)
	}
	if text, e := schema.Print(s); text != chapterSchema || e != api.OK {
		t.Errorf("Print of Parse of S: %v\n%s", e, text)
	}
}

func TestParseOfWhatSaysNothing(t *testing.T) {
	for _, text := range []string{"", "\n", "\n\n\n", " ", "\t \t", " \n\t\n", "#", "# attributetype", " \t# ( ' \n#\n", "#'", strings.Repeat(" ", api.MaxBytes), strings.Repeat("\n", api.MaxBytes)} {
		if s := mustParse(t, text); len(s.Types)+len(s.Classes) != 0 {
			t.Errorf("Parse(%s) = %+v", brief(text), s)
		}
	}
}

func TestParseAllFields(t *testing.T) {
	line := "attributetype ( 1.2.0 NAME ( 'a' 'b' '' '( # $ \t\x00\xff' ) SUP 1.9 EQUALITY 2.5.13.2 ORDERING caseexactORDERINGmatch SUBSTR 2.5.13.10 SYNTAX " + syn15 + " SINGLE-VALUE X-INDEX ( 'part' 'have' 'order' 'equal' ) )"
	got := mustParse(t, line).Types[0]
	want := api.Type{Oid: "1.2.0", Names: []string{"a", "b", "", "( # $ \t\x00\xff"}, Sup: "1.9", Syntax: api.SynText, Equal: api.RuleFold, Order: api.RuleExactOrder, Part: api.RuleDigitsPart, Single: true, Index: 15}
	if !sameType(got, want) {
		t.Errorf("%s is %+v", line, got)
	}
	line = "\t objectclass(0.0 NAME('a')SUP(1.1$b)AUXILIARY MUST(c)MAY(d$e$2.5))\t "
	c := mustParse(t, line).Classes
	wantClass := api.Class{Oid: "0.0", Names: []string{"a"}, Sups: []string{"1.1", "b"}, Kind: api.ClAuxiliary, Must: []string{"c"}, May: []string{"d", "e", "2.5"}}
	if !sameSchema(api.Schema{Classes: c}, api.Schema{Classes: []api.Class{wantClass}}) {
		t.Errorf("%s is %+v", line, c)
	}
}

func TestParseClassKinds(t *testing.T) {
	for word, want := range map[string]int8{"": api.ClStructural, "STRUCTURAL": api.ClStructural, "ABSTRACT": api.ClAbstract, "AUXILIARY": api.ClAuxiliary} {
		s := mustParse(t, "objectclass ( 1.2 NAME 'x' "+word+" )")
		if s.Classes[0].Kind != want {
			t.Errorf("%q: kind %d", word, s.Classes[0].Kind)
		}
	}
}

// Words of the grammar are words like others where one of those must stand.
func TestParseWordsOfTheGrammarAsNames(t *testing.T) {
	s := mustParse(t, "attributetype ( 1.2 NAME 'x' SUP EQUALITY SYNTAX "+syn15+" )\nobjectclass ( 1.2 NAME 'x' SUP ABSTRACT MUST MAY MAY MUST )")
	if s.Types[0].Sup != "EQUALITY" || s.Classes[0].Sups[0] != "ABSTRACT" || s.Classes[0].Kind != api.ClStructural || s.Classes[0].Must[0] != "MAY" || s.Classes[0].May[0] != "MUST" {
		t.Errorf("%+v", s)
	}
}

func TestParseRulesAndSyntaxes(t *testing.T) {
	for _, row := range ruleRows {
		for _, rule := range []string{row.name, row.oid, strings.ToUpper(row.name)} {
			text := fmt.Sprintf("attributetype ( 1.2 NAME 'x' EQUALITY %s ORDERING %s SUBSTR %s SYNTAX %s )", rule, rule, rule, row.syntaxOid)
			got := mustParse(t, text).Types[0]
			if got.Equal != row.number || got.Order != row.number || got.Part != row.number || got.Syntax != row.syntax {
				t.Errorf("%s: %+v", text, got)
			}
		}
	}
}

func TestParseFaults(t *testing.T) {
	const head = "attributetype ( 1.2 NAME 'a' "
	const tail = head + "SYNTAX " + syn15 + " "
	const class = "objectclass ( 1.2 NAME 'x' "
	for _, c := range []struct {
		before, word, after string
		code                api.Errno
	}{
		{"", "(", "", api.ErrWord}, {"", "'", "x", api.ErrWord}, {"", "'x'", "", api.ErrWord}, {"", "$", "", api.ErrWord}, {"", "1.2", "", api.ErrWord},
		{"", "Attributetype", " (", api.ErrWord}, {"", "OBJECTCLASS", " (", api.ErrWord}, {"", "attributetypes", "(", api.ErrWord},
		{"", "a#", "", api.ErrWord}, {"", "\r", "", api.ErrWord}, {"", "\x00", "", api.ErrWord}, {"", "é", "", api.ErrWord},
		{"# x\n \t", "x", " y", api.ErrWord}, {chapterSchema + "\n  ", "x", "\ny", api.ErrWord}, {chapterSchema, "attributetype#", "", api.ErrWord},
		{"attributetype ", "1.2", "", api.ErrSyntax}, {"attributetype ", "#", "", api.ErrSyntax}, {"attributetype", "'", "(", api.ErrSyntax},
		{"attributetype ( ", "a", " NAME", api.ErrSyntax}, {"attributetype ( ", "1", " NAME", api.ErrSyntax}, {"attributetype ( ", "1.02", "", api.ErrSyntax},
		{"attributetype ( ", "00.2", "", api.ErrSyntax}, {"attributetype ( ", ".2", "", api.ErrSyntax}, {"attributetype ( ", "1.", "", api.ErrSyntax},
		{"attributetype ( ", "1..2", "", api.ErrSyntax}, {"attributetype ( ", "1.2a", "", api.ErrSyntax}, {"attributetype ( ", "'1.2'", "", api.ErrSyntax},
		{"attributetype ( 1.2 ", "name", " 'x'", api.ErrSyntax}, {"attributetype ( 1.2 ", "'NAME'", " 'x'", api.ErrSyntax},
		{"attributetype ( 1.2 NAME ", "x", "", api.ErrSyntax}, {"attributetype ( 1.2 NAME ", "$", "", api.ErrSyntax}, {"attributetype ( 1.2 NAME ", "'", "x\n'", api.ErrSyntax},
		{"attributetype ( 1.2 NAME ( ", ")", "", api.ErrSyntax}, {"attributetype ( 1.2 NAME ( 'a' ", "$", " 'b'", api.ErrSyntax}, {"attributetype ( 1.2 NAME ( 'a' ", "b", " )", api.ErrSyntax},
		{"attributetype ( 1.2 NAME ( 'a' ", "(", " )", api.ErrSyntax}, {"attributetype ( 1.2 NAME ( 'a' ", "'", ")", api.ErrSyntax},
		{head, "'b'", "", api.ErrSyntax}, {head, ")", "", api.ErrSyntax}, {head, "syntax", "", api.ErrSyntax}, {head, "SINGLE-VALUE", "", api.ErrSyntax},
		{head + "SUP ", "'b'", "", api.ErrSyntax}, {head + "SUP ", "(", "b)", api.ErrSyntax}, {head + "SUP ", "a_b", "", api.ErrSyntax}, {head + "SUP ", "-b", "", api.ErrSyntax}, {head + "SUP ", "9b", "", api.ErrSyntax},
		{head + "SUP b ", "$", " c", api.ErrSyntax}, {head + "SUP b ", "SUP", " c", api.ErrSyntax}, {head + "ORDERING integerMatch ", "EQUALITY", "", api.ErrSyntax}, {head + "EQUALITY integerMatch ", "SUP", " b", api.ErrSyntax},
		{head + "EQUALITY ", "fold", "", api.ErrWord}, {head + "EQUALITY ", "2.5.13.11", "", api.ErrWord}, {head + "EQUALITY ", "SYNTAX", " " + syn15, api.ErrWord},
		{head + "EQUALITY ", "'integerMatch'", "", api.ErrSyntax}, {head + "EQUALITY ", "2.5.13.", "", api.ErrSyntax}, {head + "EQUALITY ", "2.5.13.02", "", api.ErrSyntax}, {head + "EQUALITY ", "(", "", api.ErrSyntax}, {head + "EQUALITY ", "'", "", api.ErrSyntax},
		{head + "EQUALITY ", "integerMatch_", "", api.ErrSyntax}, {head + "ORDERING ", "x", "", api.ErrWord}, {head + "SUBSTR ", "2.5.13.1.2", "", api.ErrWord},
		{head + "SYNTAX ", "x", "", api.ErrWord}, {head + "SYNTAX ", "1.3.6.1.4.1.1466.115.121.1.99", "", api.ErrWord}, {head + "SYNTAX ", "1.3.6.1.4.1.1466.115.121.1.155", "", api.ErrWord}, {head + "SYNTAX ", "1.3.6.1.4.1.1466.115.121.1", "", api.ErrWord},
		{head + "SYNTAX ", "1.3.6.1.4.1.1466.115.121.1.", "", api.ErrSyntax}, {head + "SYNTAX ", "'x'", "", api.ErrSyntax}, {head + "SYNTAX ", ")", "", api.ErrSyntax}, {head + "SYNTAX ", "2.5.13.2", "", api.ErrWord},
		{tail, "SYNTAX", "", api.ErrSyntax}, {tail, "single-value", " )", api.ErrSyntax}, {tail + "SINGLE-VALUE ", "SINGLE-VALUE", " )", api.ErrSyntax}, {tail + "X-INDEX 'have' ", "SINGLE-VALUE", " )", api.ErrSyntax},
		{tail + "X-INDEX ", ")", "", api.ErrSyntax}, {tail + "X-INDEX ", "have", " )", api.ErrSyntax}, {tail + "X-INDEX ", "'Have'", " )", api.ErrWord}, {tail + "X-INDEX ", "''", " )", api.ErrWord}, {tail + "X-INDEX ", "' have'", " )", api.ErrWord}, {tail + "X-INDEX ", "'", " )", api.ErrSyntax},
		{tail + "X-INDEX ( ", ")", " )", api.ErrSyntax}, {tail + "X-INDEX ( 'have' 'order' ", "'have'", "", api.ErrTwice}, {tail + "X-INDEX ( 'have' ", "'x'", "'have'", api.ErrWord}, {tail + "X-INDEX 'have' ", "'have'", "", api.ErrSyntax}, {tail + "X-INDEX ( 'have' ", "part", "", api.ErrSyntax},
		{tail + ") ", ")", "", api.ErrSyntax}, {tail + ") ", "#", "", api.ErrSyntax}, {tail + ") ", "attributetype", "", api.ErrSyntax}, {tail + ")", "\r", "\n", api.ErrSyntax}, {tail + ")", "'", "\n", api.ErrSyntax},
		{class, "OBSOLETE", "", api.ErrSyntax}, {class, "structural", "", api.ErrSyntax}, {class + "ABSTRACT ", "STRUCTURAL", "", api.ErrSyntax}, {class + "ABSTRACT ", "SUP", " x", api.ErrSyntax}, {class, "SYNTAX", "", api.ErrSyntax},
		{class + "SUP ", ")", "", api.ErrSyntax}, {class + "SUP ( ", ")", "", api.ErrSyntax}, {class + "SUP ( a ", "b", "", api.ErrSyntax}, {class + "SUP ( a $ ", ")", "", api.ErrSyntax}, {class + "SUP ( ", "$", " a )", api.ErrSyntax}, {class + "SUP a ", "$", " b", api.ErrSyntax}, {class + "SUP ( a $ ", "'b'", "", api.ErrSyntax},
		{class + "SUP ( ", "(", "", api.ErrSyntax}, {class + "MUST a ", "MUST", " b", api.ErrSyntax}, {class + "MAY a ", "MUST", " b )", api.ErrSyntax}, {class + "MAY ", "a_b", " )", api.ErrSyntax}, {class + "MUST ( a $ b ", "MAY", "", api.ErrSyntax},
		{class + ") ", "x", "", api.ErrSyntax},
	} {
		checkFault(t, c.before+c.word+c.after, &api.Fault{Code: c.code, At: len(c.before), Word: c.word})
		if f := modelFault(c.before + c.word + c.after); f == nil || *f != (api.Fault{Code: c.code, At: len(c.before), Word: c.word}) {
			t.Errorf("the model says %v of %s", f, brief(c.before+c.word+c.after))
		}
	}
}

// Of a line that ends behind each of its words.
func TestParseOfLinesThatEndTooEarly(t *testing.T) {
	for _, line := range []string{
		"attributetype ( 1.2 NAME ( 'a' 'b' ) SUP c EQUALITY integerMatch ORDERING integerMatch SUBSTR integerMatch SYNTAX " + syn15 + " SINGLE-VALUE X-INDEX ( 'have' 'part' ) )",
		"objectclass ( 1.2 NAME ( 'a' 'b' ) SUP ( c $ d ) ABSTRACT MUST ( e $ f ) MAY ( g $ h ) )",
	} {
		words := ofLine.FindAllString(line, -1)
		for k := 1; k < len(words); k++ {
			text := strings.Join(words[:k], " ")
			for _, blanks := range []string{"", " ", "\t  "} {
				want := &api.Fault{Code: api.ErrSyntax, At: len("\n" + text + blanks)}
				checkFault(t, "\n"+text+blanks, want)
				checkFault(t, "\n"+text+blanks+"\n"+line, want)
			}
		}
		checkFault(t, line, nil)
	}
}

// Of lines cut, or with one byte changed, at every place.
func TestParseOfTornLines(t *testing.T) {
	text := "  attributetype ( 1.20 NAME ( 'a' 'bc' ) SUP c EQUALITY integerMatch ORDERING 2.5.13.15 SYNTAX " + syn15 + " SINGLE-VALUE X-INDEX ( 'have' 'part' ) )\n" +
		"objectclass ( 1.2 NAME 'a' SUP ( c $ 1.4 ) AUXILIARY MUST ( e $ f ) MAY g )\n# x"
	for k := range len(text) {
		checkFault(t, text[:k], modelFault(text[:k]))
		for _, b := range []string{"", " ", "\n", "'", "(", ")", "$", "#", "0", ".", "a", "-", "_", "\x00", "\xff"} {
			torn := text[:k] + b + text[k+1:]
			checkFault(t, torn, modelFault(torn))
			torn = text[:k] + b + text[k:]
			checkFault(t, torn, modelFault(torn))
		}
	}
}

// Of lines whose words are taken away, changed and put in by chance.
func TestParseOfMixedLines(t *testing.T) {
	chance := rand.New(rand.NewSource(5))
	pool := append(strings.Fields("attributetype objectclass ( ) $ ( ) $ NAME SUP EQUALITY ORDERING SUBSTR SYNTAX SINGLE-VALUE X-INDEX ABSTRACT STRUCTURAL AUXILIARY MUST MAY a 1.2 a_b 1.02 'a' '' ' 'have' 'have' 'part' 'whole' # integerMatch 2.5.13.2 fold"), syn15)
	base := []string{
		"attributetype ( 1.2 NAME 'a' SUP c EQUALITY integerMatch ORDERING integerMatch SUBSTR 2.5.13.2 SYNTAX " + syn15 + " SINGLE-VALUE X-INDEX ( 'have' 'equal' ) )",
		"attributetype ( 1.2 NAME ( 'a' 'b' ) SYNTAX " + syn15 + " X-INDEX 'have' )",
		"objectclass ( 1.2 NAME ( 'a' 'b' ) SUP ( c $ d ) ABSTRACT MUST ( e $ f ) MAY ( g $ h ) )",
		"objectclass ( 1.2 NAME 'a' SUP c MUST e )",
	}
	whole := 0
	for range 30000 {
		words := strings.Fields(base[chance.Intn(len(base))])
		for range chance.Intn(4) {
			k := chance.Intn(len(words))
			switch chance.Intn(3) {
			case 0:
				words = append(words[:k:k], words[k+1:]...)
			case 1:
				words = append(words[:k:k], append([]string{pool[chance.Intn(len(pool))]}, words[k+1:]...)...)
			default:
				words = append(words[:k:k], append([]string{pool[chance.Intn(len(pool))]}, words[k:]...)...)
			}
			if len(words) == 0 {
				break
			}
		}
		text := strings.Join(words, []string{" ", "\t", "  "}[chance.Intn(3)])
		want := modelFault(text)
		if want == nil {
			whole++
		}
		checkFault(t, text, want)
	}
	if whole < 2000 || whole > 25000 {
		t.Errorf("of 30000 lines %d are whole", whole)
	}
}

func TestParseBounds(t *testing.T) {
	const oneType = "attributetype(0.0 NAME''SYNTAX " + syn15 + ")\n"
	const oneClass = "objectclass(0.0 NAME'')\n"
	full := strings.Repeat(oneType, api.MaxTypes) + strings.Repeat(oneClass, api.MaxTypes)
	if s := mustParse(t, full); len(s.Types) != api.MaxTypes || len(s.Classes) != api.MaxTypes {
		t.Errorf("%d types, %d classes", len(s.Types), len(s.Classes))
	}
	for _, more := range []string{oneType, "attributetype", "attributetype x\ny", "\n\t attributetype ' "} {
		checkFault(t, full+more, &api.Fault{Code: api.ErrLong, At: len(full) + strings.Index(more, "attributetype"), Word: "attributetype"})
	}
	for _, more := range []string{oneClass, "objectclass", " objectclass ( 1.2 )"} {
		checkFault(t, full+more, &api.Fault{Code: api.ErrLong, At: len(full) + strings.Index(more, "objectclass"), Word: "objectclass"})
	}
	checkFault(t, full+"type", &api.Fault{Code: api.ErrWord, At: len(full), Word: "type"})
	checkFault(t, full+"attributetype'", &api.Fault{Code: api.ErrLong, At: len(full), Word: "attributetype"})
	checkFault(t, full+"attributetype'\nx", &api.Fault{Code: api.ErrLong, At: len(full), Word: "attributetype"})
	checkFault(t, "x"+full+oneType, &api.Fault{Code: api.ErrWord, Word: "xattributetype"})
}

func TestParseOfLongTexts(t *testing.T) {
	long := func(size int, line string) string {
		return strings.Replace(line, "*", strings.Repeat("n", size-len(line)+1), 1)
	}
	printed := long(api.MaxBytes, "objectclass ( 1.2 NAME '*' STRUCTURAL )\n")
	checkFault(t, printed, nil)
	checkFault(t, printed+" ", &api.Fault{Code: api.ErrLong})
	checkFault(t, "x"+printed, &api.Fault{Code: api.ErrLong})
	checkFault(t, printed[:len(printed)-1]+" ", nil)
	checkFault(t, strings.Replace(printed, "( ", "(n", 1), &api.Fault{Code: api.ErrSyntax, At: 13, Word: "n1.2"})
	short := long(api.MaxBytes, "objectclass(1.2 NAME'*')")
	checkFault(t, short, &api.Fault{Code: api.ErrLong})
	checkFault(t, short[:len(short)-1]+"'", &api.Fault{Code: api.ErrSyntax, At: len(short) - 1, Word: "'"})
	checkFault(t, strings.Repeat(" ", api.MaxBytes-1)+"x", &api.Fault{Code: api.ErrWord, At: api.MaxBytes - 1, Word: "x"})
	checkFault(t, strings.Repeat("x", api.MaxBytes), &api.Fault{Code: api.ErrWord, Word: strings.Repeat("x", api.MaxBytes)})
	checkFault(t, strings.Repeat("x", api.MaxBytes+1), &api.Fault{Code: api.ErrLong})
}
