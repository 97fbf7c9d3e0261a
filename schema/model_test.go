package schema_test

import (
	"fmt"
	"regexp"
	"slices"
	"strings"
	"testing"

	"roster/api"
	"roster/schema"
)

// The models say once more, by other means, what the chapter says: the tests hold the package against them.

// chapterTable is the chapter's table of syntaxes and rules, as it stands there.
const chapterTable = `
SynText | 15 | RuleFold caseIgnoreMatch 2; RuleExact caseExactMatch 5 | RuleFoldOrder caseIgnoreOrderingMatch 3; RuleExactOrder caseExactOrderingMatch 6 | RuleFoldPart caseIgnoreSubstringsMatch 4; RuleExactPart caseExactSubstringsMatch 7
SynDigits | 36 | RuleDigits numericStringMatch 8 | RuleDigitsOrder numericStringOrderingMatch 9 | RuleDigitsPart numericStringSubstringsMatch 10
SynPhone | 50 | RulePhone telephoneNumberMatch 20 | | RulePhonePart telephoneNumberSubstringsMatch 21
SynNumber | 27 | RuleNumber integerMatch 14 | RuleNumberOrder integerOrderingMatch 15 |
SynFlag | 7 | RuleFlag booleanMatch 13 | |
SynTime | 24 | RuleTime generalizedTimeMatch 27 | RuleTimeOrder generalizedTimeOrderingMatch 28 |
SynBytes | 40 | RuleBytes octetStringMatch 17 | RuleBytesOrder octetStringOrderingMatch 18 |
SynName | 12 | RuleName distinguishedNameMatch 1 | |
SynOid | 38 | RuleOid objectIdentifierMatch 0 | |`

var syntaxNumbers = map[string]int8{
	"SynText": api.SynText, "SynDigits": api.SynDigits, "SynPhone": api.SynPhone, "SynNumber": api.SynNumber, "SynFlag": api.SynFlag,
	"SynTime": api.SynTime, "SynBytes": api.SynBytes, "SynName": api.SynName, "SynOid": api.SynOid,
}

var ruleNumbers = map[string]int8{
	"RuleFold": api.RuleFold, "RuleFoldOrder": api.RuleFoldOrder, "RuleFoldPart": api.RuleFoldPart,
	"RuleExact": api.RuleExact, "RuleExactOrder": api.RuleExactOrder, "RuleExactPart": api.RuleExactPart,
	"RuleDigits": api.RuleDigits, "RuleDigitsOrder": api.RuleDigitsOrder, "RuleDigitsPart": api.RuleDigitsPart,
	"RulePhone": api.RulePhone, "RulePhonePart": api.RulePhonePart, "RuleNumber": api.RuleNumber, "RuleNumberOrder": api.RuleNumberOrder,
	"RuleFlag": api.RuleFlag, "RuleTime": api.RuleTime, "RuleTimeOrder": api.RuleTimeOrder,
	"RuleBytes": api.RuleBytes, "RuleBytesOrder": api.RuleBytesOrder, "RuleName": api.RuleName, "RuleOid": api.RuleOid,
}

var formNumbers = map[string]int8{
	"Fold": api.FormFold, "Exact": api.FormExact, "Digits": api.FormDigits, "Phone": api.FormPhone, "Number": api.FormNumber,
	"Flag": api.FormFlag, "Time": api.FormTime, "Bytes": api.FormBytes, "Name": -1, "Oid": api.FormOid,
}

type ruleRow struct {
	number       int8
	name, oid    string
	kind         int // 0 equal, 1 order, 2 part
	form, syntax int8
	syntaxOid    string
}

const (
	ruleArc   = "2.5.13."
	syntaxArc = "1.3.6.1.4.1.1466.115.121.1."
)

var (
	ruleRows   = readTable()
	syntaxOids = syntaxOidsOf(ruleRows)
)

func readTable() []ruleRow {
	var rows []ruleRow
	for _, line := range strings.Split(strings.TrimSpace(chapterTable), "\n") {
		cells := strings.Split(line, "|")
		for kind, cell := range cells[2:] {
			for _, one := range strings.Split(cell, ";") {
				words := strings.Fields(one)
				if len(words) == 0 {
					continue
				}
				form := strings.TrimSuffix(strings.TrimSuffix(strings.TrimPrefix(words[0], "Rule"), "Order"), "Part")
				rows = append(rows, ruleRow{
					number: ruleNumbers[words[0]], name: words[1], oid: ruleArc + words[2], kind: kind,
					form: formNumbers[form], syntax: syntaxNumbers[strings.TrimSpace(cells[0])],
					syntaxOid: syntaxArc + strings.TrimSpace(cells[1]),
				})
			}
		}
	}
	return rows
}

func syntaxOidsOf(rows []ruleRow) map[int8]string {
	oids := map[int8]string{}
	for _, r := range rows {
		oids[r.syntax] = r.syntaxOid
	}
	return oids
}

func ruleRowOf(number int8) (ruleRow, bool) {
	for _, r := range ruleRows {
		if r.number == number {
			return r, true
		}
	}
	return ruleRow{}, false
}

var (
	isWord   = regexp.MustCompile(`^[A-Za-z][A-Za-z0-9-]*$`)
	isOid    = regexp.MustCompile(`^(0|[1-9][0-9]*)(\.(0|[1-9][0-9]*))+$`)
	isDesc   = regexp.MustCompile(`^([A-Za-z][A-Za-z0-9-]*|(0|[1-9][0-9]*)(\.(0|[1-9][0-9]*))+)(;[A-Za-z0-9-]+)*$`)
	ofLine   = regexp.MustCompile(`'[^'\n]*'|'|[()$]|[^ \t()$'\n]+`)
	hasMarks = regexp.MustCompile(`['\n]`)
)

func isX(s string) bool { return isWord.MatchString(s) || isOid.MatchString(s) }

var smaller = smallLetters()

func smallLetters() *strings.Replacer {
	great := strings.Split("ABCDEFGHIJKLMNOPQRSTUVWXYZ", "")
	small := strings.Split("abcdefghijklmnopqrstuvwxyz", "")
	var pairs []string
	for k := range great {
		pairs = append(pairs, great[k], small[k])
	}
	return strings.NewReplacer(pairs...)
}

func allSmall(s string) string { return smaller.Replace(s) }

// A grammar is held against a line by taking, word for word, what may still follow (its derivative).

type grammar struct {
	sort string // "none", "end", "one", "then", "or", "again"
	want string
	fits func(string) bool
	a, b *grammar
}

var (
	none = &grammar{sort: "none"}
	end  = &grammar{sort: "end"}
)

func one(want string, fits func(string) bool) *grammar {
	return &grammar{sort: "one", want: want, fits: fits}
}

func word(w string) *grammar { return one(w, func(s string) bool { return s == w }) }

func then(list ...*grammar) *grammar {
	g := end
	for k := len(list) - 1; k >= 0; k-- {
		g = after(list[k], g)
	}
	return g
}

func after(a, b *grammar) *grammar {
	switch {
	case a == none || b == none:
		return none
	case a == end:
		return b
	case b == end:
		return a
	}
	return &grammar{sort: "then", a: a, b: b}
}

func or(a, b *grammar) *grammar {
	switch {
	case a == none:
		return b
	case b == none:
		return a
	}
	return &grammar{sort: "or", a: a, b: b}
}

func maybe(list ...*grammar) *grammar { return or(end, then(list...)) }

func again(a *grammar) *grammar { return &grammar{sort: "again", a: a} }

func (g *grammar) mayEnd() bool {
	switch g.sort {
	case "end", "again":
		return true
	case "or":
		return g.a.mayEnd() || g.b.mayEnd()
	case "then":
		return g.a.mayEnd() && g.b.mayEnd()
	}
	return false
}

func (g *grammar) behind(s string) *grammar {
	switch g.sort {
	case "one":
		if g.fits(s) {
			return end
		}
	case "or":
		return or(g.a.behind(s), g.b.behind(s))
	case "again":
		return after(g.a.behind(s), g)
	case "then":
		rest := after(g.a.behind(s), g.b)
		if g.a.mayEnd() {
			rest = or(rest, g.b.behind(s))
		}
		return rest
	}
	return none
}

// wants tells what may come next.
func (g *grammar) wants() []string {
	switch g.sort {
	case "one":
		return []string{g.want}
	case "or":
		return append(g.a.wants(), g.b.wants()...)
	case "again":
		return g.a.wants()
	case "then":
		if g.a.mayEnd() {
			return append(g.a.wants(), g.b.wants()...)
		}
		return g.a.wants()
	}
	return nil
}

func isText(s string) bool { return len(s) > 1 && s[0] == '\'' }

func isIndexText(s string) bool {
	return slices.Contains([]string{"'have'", "'equal'", "'order'", "'part'"}, s)
}

func saysRule(s string) bool {
	return slices.ContainsFunc(ruleRows, func(r ruleRow) bool { return allSmall(s) == allSmall(r.name) || s == r.oid })
}

func saysSyntax(s string) bool {
	return slices.ContainsFunc(ruleRows, func(r ruleRow) bool { return s == r.syntaxOid })
}

func oneOrSome(g *grammar) *grammar {
	return or(g, then(word("("), g, again(g), word(")")))
}

func lineGrammars() map[string]*grammar {
	oid, x := one("oid", isOid.MatchString), one("x", isX)
	names := oneOrSome(one("name", isText))
	index := oneOrSome(one("index", isIndexText))
	rule, syntax := one("rule", saysRule), one("syntax", saysSyntax)
	list := or(x, then(word("("), x, again(then(word("$"), x)), word(")")))
	kind := or(or(word("ABSTRACT"), word("STRUCTURAL")), or(word("AUXILIARY"), end))
	return map[string]*grammar{
		"attributetype": then(word("("), oid, word("NAME"), names, maybe(word("SUP"), x), maybe(word("EQUALITY"), rule),
			maybe(word("ORDERING"), rule), maybe(word("SUBSTR"), rule), word("SYNTAX"), syntax,
			maybe(word("SINGLE-VALUE")), maybe(word("X-INDEX"), index), word(")")),
		"objectclass": then(word("("), oid, word("NAME"), names, maybe(word("SUP"), list), kind,
			maybe(word("MUST"), list), maybe(word("MAY"), list), word(")")),
	}
}

// modelFault is the fault of a text that is not too long and has not too many lines; nil, if there is none.
func modelFault(text string) *api.Fault {
	from := 0
	for _, line := range strings.SplitAfter(text, "\n") {
		if f := modelLine(strings.TrimSuffix(line, "\n")); f != nil {
			f.At += from
			return f
		}
		from += len(line)
	}
	return nil
}

func modelLine(line string) *api.Fault {
	spans := ofLine.FindAllStringIndex(line, -1)
	if len(spans) == 0 || line[spans[0][0]] == '#' {
		return nil
	}
	first := line[spans[0][0]:spans[0][1]]
	g := lineGrammars()[first]
	if g == nil {
		return &api.Fault{Code: api.ErrWord, At: spans[0][0], Word: first}
	}
	seen := map[string]bool{}
	for _, span := range spans[1:] {
		w := line[span[0]:span[1]]
		wants, rest := g.wants(), g.behind(w)
		isIndex := slices.Contains(wants, "index") && isIndexText(w)
		switch {
		case isIndex && seen[w]:
			return &api.Fault{Code: api.ErrTwice, At: span[0], Word: w}
		case rest == none && (slices.Contains(wants, "rule") || slices.Contains(wants, "syntax")) && isX(w):
			return &api.Fault{Code: api.ErrWord, At: span[0], Word: w}
		case rest == none && slices.Contains(wants, "index") && isText(w):
			return &api.Fault{Code: api.ErrWord, At: span[0], Word: w}
		case rest == none:
			return &api.Fault{Code: api.ErrSyntax, At: span[0], Word: w}
		}
		seen[w] = isIndex
		g = rest
	}
	if !g.mayEnd() {
		return &api.Fault{Code: api.ErrSyntax, At: len(line)}
	}
	return nil
}

// modelPrint knows nothing of the bounds.
func modelPrint(s api.Schema) (string, bool) {
	text := ""
	for _, t := range s.Types {
		line, ok := modelTypeLine(t)
		if !ok {
			return "", false
		}
		text += line
	}
	for _, c := range s.Classes {
		line, ok := modelClassLine(c)
		if !ok {
			return "", false
		}
		text += line
	}
	return text, true
}

func modelHead(oid string, names []string) (string, bool) {
	if !isOid.MatchString(oid) || len(names) == 0 || hasMarks.MatchString(strings.Join(names, "")) {
		return "", false
	}
	return oid + " NAME " + modelNames(names), true
}

func modelNames(names []string) string {
	text := "'" + strings.Join(names, "' '") + "'"
	if len(names) > 1 {
		text = "( " + text + " )"
	}
	return text
}

func modelTypeLine(t api.Type) (string, bool) {
	text, ok := modelHead(t.Oid, t.Names)
	syntax, known := syntaxOids[t.Syntax]
	if !ok || !known || t.Sup != "" && !isX(t.Sup) || t.Index > 15 {
		return "", false
	}
	if t.Sup != "" {
		text += " SUP " + t.Sup
	}
	for kind, number := range []int8{t.Equal, t.Order, t.Part} {
		row, known := ruleRowOf(number)
		if !known && number != 0 {
			return "", false
		}
		if number != 0 {
			text += " " + []string{"EQUALITY", "ORDERING", "SUBSTR"}[kind] + " " + row.name
		}
	}
	text += " SYNTAX " + syntax
	if t.Single {
		text += " SINGLE-VALUE"
	}
	var index []string
	for k, w := range []string{"have", "equal", "order", "part"} {
		if int(t.Index)/(1<<k)%2 == 1 {
			index = append(index, w)
		}
	}
	if len(index) > 0 {
		text += " X-INDEX " + modelNames(index)
	}
	return "attributetype ( " + text + " )\n", true
}

func modelClassLine(c api.Class) (string, bool) {
	text, ok := modelHead(c.Oid, c.Names)
	kinds := map[int8]string{api.ClAbstract: "ABSTRACT", api.ClStructural: "STRUCTURAL", api.ClAuxiliary: "AUXILIARY"}
	if !ok || kinds[c.Kind] == "" {
		return "", false
	}
	for k, list := range [][]string{c.Sups, nil, c.Must, c.May} {
		if k == 1 {
			text += " " + kinds[c.Kind]
			continue
		}
		for _, w := range list {
			if !isX(w) {
				return "", false
			}
		}
		if len(list) == 0 {
			continue
		}
		joined := strings.Join(list, " $ ")
		if len(list) > 1 {
			joined = "( " + joined + " )"
		}
		text += " " + []string{"SUP", "", "MUST", "MAY"}[k] + " " + joined
	}
	return "objectclass ( " + text + " )\n", true
}

// modelNew goes by the chapter's steps, asking every type and class each time.
func modelNew(s api.Schema) (api.Errno, int) {
	if len(s.Types) > 1024 || len(s.Classes) > 1024 {
		return api.ErrLong, 0
	}
	for place := range s.Types {
		if e := modelType(s, place); e != api.OK {
			return e, place
		}
	}
	for place := range s.Classes {
		if e := modelClass(s, place); e != api.OK {
			return e, len(s.Types) + place
		}
	}
	for place, t := range s.Types {
		if hasName(t.Names, "objectClass") && t.Syntax == api.SynOid && modelRule(s, place, 0) == api.RuleOid && !t.Single {
			return api.OK, 0
		}
	}
	return api.ErrType, 0
}

func hasName(names []string, name string) bool {
	return slices.ContainsFunc(names, func(n string) bool { return allSmall(n) == allSmall(name) })
}

func modelTypePlace(s api.Schema, name string) int {
	return slices.IndexFunc(s.Types, func(t api.Type) bool { return hasName(append([]string{t.Oid}, t.Names...), name) })
}

func modelClassPlace(s api.Schema, name string) int {
	return slices.IndexFunc(s.Classes, func(c api.Class) bool { return hasName(append([]string{c.Oid}, c.Names...), name) })
}

func modelWords(oid string, names []string) bool {
	for _, name := range names {
		if !isWord.MatchString(name) || len(name) > 65536 {
			return false
		}
	}
	return isOid.MatchString(oid) && len(oid) <= 65536 && len(names) > 0
}

func ruleField(t api.Type, kind int) int8 { return []int8{t.Equal, t.Order, t.Part}[kind] }

// modelRule is the type's rule of a kind.
func modelRule(s api.Schema, place, kind int) int8 {
	t := s.Types[place]
	if ruleField(t, kind) != 0 || t.Sup == "" {
		return ruleField(t, kind)
	}
	return modelRule(s, modelTypePlace(s, t.Sup), kind)
}

func modelType(s api.Schema, place int) api.Errno {
	t := s.Types[place]
	if !modelWords(t.Oid, t.Names) {
		return api.ErrSyntax
	}
	if len(t.Names) > 16 {
		return api.ErrLong
	}
	for k, name := range t.Names {
		if hasName(t.Names[:k], name) {
			return api.ErrTwice
		}
	}
	for _, other := range s.Types[:place] {
		for _, name := range t.Names {
			if other.Oid == t.Oid || hasName(other.Names, name) {
				return api.ErrTwice
			}
		}
	}
	if e := modelSup(s, place); e != api.OK {
		return e
	}
	return modelRules(s, place)
}

func modelSup(s api.Schema, place int) api.Errno {
	if sup := s.Types[place].Sup; sup != "" && modelTypePlace(s, sup) < 0 {
		return api.ErrWord
	}
	seen, at := map[int]bool{place: true}, place
	for s.Types[at].Sup != "" {
		at = modelTypePlace(s, s.Types[at].Sup)
		if at < 0 {
			break
		}
		if seen[at] {
			return api.ErrLoop
		}
		seen[at] = true
	}
	if len(seen)-1 > 16 {
		return api.ErrLong
	}
	return api.OK
}

// modelUps has the type's own place and those above it, ending where a Sup is no type's.
func modelUps(s api.Schema, place int) []int {
	ups := []int{place}
	for s.Types[place].Sup != "" {
		if place = modelTypePlace(s, s.Types[place].Sup); place < 0 {
			break
		}
		ups = append(ups, place)
	}
	return ups
}

func modelRules(s api.Schema, place int) api.Errno {
	t := s.Types[place]
	if t.Syntax < 0 || t.Syntax > 8 || t.Index > 15 {
		return api.ErrRule
	}
	if t.Sup != "" && s.Types[modelTypePlace(s, t.Sup)].Syntax != t.Syntax {
		return api.ErrRule
	}
	for kind, bit := range []uint8{api.IxEqual, api.IxOrder, api.IxPart} {
		if own := ruleField(t, kind); own != 0 {
			if row, ok := ruleRowOf(own); !ok || row.kind != kind || row.syntax != t.Syntax {
				return api.ErrRule
			}
		}
		named := false
		for _, up := range modelUps(s, place) {
			named = named || ruleField(s.Types[up], kind) != 0
		}
		if t.Index&bit != 0 && !named {
			return api.ErrRule
		}
	}
	return api.OK
}

func modelClass(s api.Schema, place int) api.Errno {
	c := s.Classes[place]
	if !modelWords(c.Oid, c.Names) || c.Kind < 0 || c.Kind > 2 {
		return api.ErrSyntax
	}
	if len(c.Names) > 16 || len(c.Sups) > 16 {
		return api.ErrLong
	}
	for k, name := range c.Names {
		if hasName(c.Names[:k], name) {
			return api.ErrTwice
		}
		for _, other := range s.Classes[:place] {
			if other.Oid == c.Oid || hasName(other.Names, name) {
				return api.ErrTwice
			}
		}
	}
	for _, sup := range c.Sups {
		if modelClassPlace(s, sup) < 0 {
			return api.ErrWord
		}
	}
	above := modelAbove(s, place)
	if above[place] {
		return api.ErrLoop
	}
	if len(above) > 16 {
		return api.ErrLong
	}
	for _, name := range append(slices.Clone(c.Must), c.May...) {
		if modelTypePlace(s, name) < 0 {
			return api.ErrWord
		}
	}
	return api.OK
}

// modelAbove grows what lies above a class till nothing comes to it.
func modelAbove(s api.Schema, place int) map[int]bool {
	above := map[int]bool{}
	take := func(of int) (more bool) {
		for _, sup := range s.Classes[of].Sups {
			if p := modelClassPlace(s, sup); p >= 0 && !above[p] {
				above[p], more = true, true
			}
		}
		return more
	}
	for more := take(place); more; {
		more = false
		for p := range s.Classes {
			more = above[p] && take(p) || more
		}
	}
	return above
}

// modelNeeds: of a schema that may be.
func modelNeeds(s api.Schema, classes []string) (must, may []int, ok bool) {
	all := map[int]bool{}
	for _, name := range classes {
		p := modelClassPlace(s, name)
		if p < 0 {
			return nil, nil, false
		}
		all[p] = true
		for up := range modelAbove(s, p) {
			all[up] = true
		}
	}
	structural := 0
	for a := range all {
		if s.Classes[a].Kind != api.ClStructural {
			continue
		}
		structural++
		for b := range all {
			if s.Classes[b].Kind == api.ClStructural && a != b && !modelAbove(s, a)[b] && !modelAbove(s, b)[a] {
				return nil, nil, false
			}
		}
	}
	for t := range s.Types {
		musts, mays := false, false
		for p := range all {
			musts = musts || namesType(s, s.Classes[p].Must, t)
			mays = mays || namesType(s, s.Classes[p].May, t)
		}
		if musts {
			must = append(must, t)
		} else if mays {
			may = append(may, t)
		}
	}
	return must, may, structural > 0
}

func namesType(s api.Schema, names []string, t int) bool {
	return slices.ContainsFunc(names, func(name string) bool { return modelTypePlace(s, name) == t })
}

// modelDesc: of a schema that may be.
func modelDesc(s api.Schema, d string) (t int, options []string, e api.Errno) {
	if len(d) > 65536 {
		return 0, nil, api.ErrLong
	}
	if !isDesc.MatchString(d) {
		return 0, nil, api.ErrName
	}
	words := strings.Split(d, ";")
	for _, option := range words[1:] {
		options = append(options, allSmall(option))
	}
	slices.Sort(options)
	options = slices.Compact(options)
	if len(options) > 8 {
		return 0, nil, api.ErrLong
	}
	t = modelTypePlace(s, words[0])
	if t < 0 {
		return 0, nil, api.ErrType
	}
	if len(strings.Join(append([]string{s.Types[t].Names[0]}, options...), ";")) > 65536 {
		return 0, nil, api.ErrLong
	}
	return t, options, api.OK
}

func brief(x any) string {
	s := fmt.Sprintf("%+v", x)
	if text, ok := x.(string); ok {
		s = fmt.Sprintf("%q", text)
	}
	if len(s) > 400 {
		s = s[:400] + ".."
	}
	return s
}

// sameSchema: lists without anything are the same, nil or not.
func sameSchema(a, b api.Schema) bool {
	return slices.EqualFunc(a.Types, b.Types, sameType) && slices.EqualFunc(a.Classes, b.Classes, func(c, d api.Class) bool {
		return c.Oid == d.Oid && c.Kind == d.Kind && slices.Equal(c.Names, d.Names) && slices.Equal(c.Sups, d.Sups) &&
			slices.Equal(c.Must, d.Must) && slices.Equal(c.May, d.May)
	})
}

func sameType(a, b api.Type) bool {
	return a.Oid == b.Oid && slices.Equal(a.Names, b.Names) && a.Sup == b.Sup && a.Syntax == b.Syntax && a.Equal == b.Equal &&
		a.Order == b.Order && a.Part == b.Part && a.Single == b.Single && a.Index == b.Index
}

func mustParse(t *testing.T, text string) api.Schema {
	t.Helper()
	s, err := schema.Parse(text)
	if err != nil {
		t.Fatalf("Parse(%s): %v", brief(text), err)
	}
	return s
}

func mustNew(t *testing.T, s api.Schema) *schema.Schema {
	t.Helper()
	x, e, at := schema.New(s)
	if x == nil || e != api.OK || at != 0 {
		t.Fatalf("New(%s): %v at %d", brief(s), e, at)
	}
	return x
}

func mustMake(t *testing.T, text string) *schema.Schema {
	t.Helper()
	return mustNew(t, mustParse(t, text))
}
