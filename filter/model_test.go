package filter_test

import (
	"fmt"
	"math/rand"
	"regexp"
	"slices"
	"strings"
	"testing"

	"roster/api"
	"roster/match"
	"roster/prep"
	"roster/schema"
)

// plainSchema has types of all syntaxes, with rules of all kinds and without any; sn has other rules than name, below which it lies.
func plainSchema() api.Schema {
	return api.Schema{
		Types: []api.Type{
			{Oid: "2.5.4.41", Names: []string{"name"}, Equal: api.RuleFold, Part: api.RuleFoldPart},
			{Oid: "2.5.4.3", Names: []string{"cn", "commonName"}, Sup: "name"},
			{Oid: "2.5.4.4", Names: []string{"sn", "surname"}, Sup: "2.5.4.41", Equal: api.RuleExact, Order: api.RuleExactOrder, Part: api.RuleExactPart},
			{Oid: "2.5.4.0", Names: []string{"objectClass"}, Syntax: api.SynOid, Equal: api.RuleOid},
			{Oid: "2.5.4.11", Names: []string{"ou"}, Equal: api.RuleFold, Order: api.RuleFoldOrder},
			{Oid: "1.1", Names: []string{"age"}, Syntax: api.SynNumber, Equal: api.RuleNumber, Order: api.RuleNumberOrder},
			{Oid: "1.2", Names: []string{"years"}, Sup: "age", Syntax: api.SynNumber},
			{Oid: "1.3", Names: []string{"tally"}, Syntax: api.SynNumber},
			{Oid: "1.4", Names: []string{"photo"}, Syntax: api.SynBytes},
			{Oid: "1.5", Names: []string{"blob"}, Syntax: api.SynBytes, Equal: api.RuleBytes, Order: api.RuleBytesOrder},
			{Oid: "1.6", Names: []string{"flag"}, Syntax: api.SynFlag, Equal: api.RuleFlag},
			{Oid: "1.7", Names: []string{"moment"}, Syntax: api.SynTime, Equal: api.RuleTime, Order: api.RuleTimeOrder},
			{Oid: "1.8", Names: []string{"phone"}, Syntax: api.SynPhone, Equal: api.RulePhone, Part: api.RulePhonePart},
			{Oid: "1.9", Names: []string{"digits"}, Syntax: api.SynDigits, Equal: api.RuleDigits, Order: api.RuleDigitsOrder, Part: api.RuleDigitsPart},
			{Oid: "1.10", Names: []string{"seeAlso"}, Syntax: api.SynName, Equal: api.RuleName},
			{Oid: "1.11", Names: []string{"bareName"}, Syntax: api.SynName},
			{Oid: "1.12", Names: []string{"bare"}},
			{Oid: "1.13", Names: []string{"bareOid"}, Syntax: api.SynOid},
		},
		Classes: []api.Class{
			{Oid: "2.5.6.0", Names: []string{"top"}},
			{Oid: "2.5.6.6", Names: []string{"person", "human"}, Sups: []string{"top"}, Kind: api.ClStructural, Must: []string{"cn"}},
		},
	}
}

func testSchema(t testing.TB) *schema.Schema {
	t.Helper()
	s, e, at := schema.New(plainSchema())
	if e != api.OK {
		t.Fatalf("the schema is refused: %v at %d", e, at)
	}
	return s
}

func item(kind int8, desc, value string) api.Filter {
	return api.Filter{Kind: kind, Desc: desc, Value: value}
}

func equal(desc, value string) api.Filter { return item(api.FEqual, desc, value) }

func have(desc string) api.Filter { return item(api.FHave, desc, "") }

// pieces has a start, middles and an end, parted by *.
func pieces(desc, text string) api.Filter {
	all := strings.Split(text, "*")
	return api.Filter{Kind: api.FPart, Desc: desc, Start: all[0], Middles: all[1 : len(all)-1], End: all[len(all)-1]}
}

func rule(desc, name, value string) api.Filter {
	return api.Filter{Kind: api.FRule, Desc: desc, Rule: name, Value: value}
}

func ruleDn(desc, name, value string) api.Filter {
	return api.Filter{Kind: api.FRule, Desc: desc, Rule: name, Value: value, Dn: true}
}

func and(kids ...api.Filter) api.Filter { return api.Filter{Kind: api.FAnd, Kids: kids} }

func or(kids ...api.Filter) api.Filter { return api.Filter{Kind: api.FOr, Kids: kids} }

func not(kid api.Filter) api.Filter { return api.Filter{Kind: api.FNot, Kids: []api.Filter{kid}} }

// nots are so many, one in the other, around f.
func nots(many int, f api.Filter) api.Filter {
	for range many {
		f = not(f)
	}
	return f
}

// recordOf has attributes and a name's parts, each a description and values, parted by |; the name's stand behind "at".
func recordOf(texts ...string) api.Record {
	r, named := api.Record{Id: 1}, false
	for _, text := range texts {
		words := strings.Split(text, "|")
		switch {
		case text == "at":
			named = true
		case named:
			var avas []api.Ava
			for i := 0; i+1 < len(words); i += 2 {
				avas = append(avas, api.Ava{Type: words[i], Value: words[i+1]})
			}
			r.Name.Rdns = append(r.Name.Rdns, api.Rdn{Avas: avas})
		default:
			r.Entry.Attrs = append(r.Entry.Attrs, api.Attr{Desc: words[0], Values: words[1:]})
		}
	}
	return r
}

func shown(f api.Filter) string {
	text := fmt.Sprintf("%d %q %q %q*%q*%q %q %v", f.Kind, f.Desc, f.Value, f.Start, f.Middles, f.End, f.Rule, f.Dn)
	if len(f.Kids) > 0 {
		var kids []string
		for _, kid := range f.Kids[:min(len(f.Kids), 20)] {
			kids = append(kids, shown(kid))
		}
		text = fmt.Sprintf("%d of %d:(%s)", f.Kind, len(f.Kids), strings.Join(kids, ", "))
	}
	if len(text) > 400 {
		return fmt.Sprintf("%s.. (%d bytes)", text[:400], len(text))
	}
	return text
}

// isSame holds two filters against one another; lists without anything are the same (R6).
func isSame(a, b api.Filter) bool {
	return a.Kind == b.Kind && a.Desc == b.Desc && a.Value == b.Value && a.Start == b.Start && a.End == b.End && a.Rule == b.Rule && a.Dn == b.Dn &&
		slices.Equal(a.Middles, b.Middles) && slices.EqualFunc(a.Kids, b.Kids, isSame)
}

var (
	descForm = regexp.MustCompile(`^([A-Za-z][A-Za-z0-9-]*|(0|[1-9][0-9]*)(\.(0|[1-9][0-9]*))+)(;[A-Za-z0-9-]+)*$`)
	ruleForm = regexp.MustCompile(`^([A-Za-z][A-Za-z0-9-]*|(0|[1-9][0-9]*)(\.(0|[1-9][0-9]*))+)$`)
	dnForm   = regexp.MustCompile(`^[Dd][Nn]$`)
)

// modelMayBe does what the chapter's list says of one part.
func modelMayBe(f api.Filter) bool {
	noKids := len(f.Kids) == 0
	noPieces := f.Start == "" && len(f.Middles) == 0 && f.End == ""
	noRule := f.Rule == "" && !f.Dn
	desc := descForm.MatchString(f.Desc)
	switch f.Kind {
	case api.FAnd, api.FOr, api.FNot:
		right := len(f.Kids) >= 1 && (f.Kind != api.FNot || len(f.Kids) == 1)
		return right && f.Desc == "" && f.Value == "" && noPieces && noRule
	case api.FEqual, api.FMore, api.FLess, api.FLike:
		return desc && noKids && noPieces && noRule
	case api.FHave:
		return desc && f.Value == "" && noKids && noPieces && noRule
	case api.FPart:
		return desc && !noPieces && !slices.Contains(f.Middles, "") && f.Value == "" && noKids && noRule
	case api.FRule:
		if f.Desc == "" && f.Rule == "" || f.Rule != "" && (!ruleForm.MatchString(f.Rule) || dnForm.MatchString(f.Rule)) {
			return false
		}
		return (f.Desc == "" || desc) && noKids && noPieces
	}
	return false
}

type placed struct {
	part  api.Filter
	above int
}

// modelParts are the parts in order, each with how many stand above it; of one that stands too deep no kids.
func modelParts(f api.Filter, above int) []placed {
	parts := []placed{{f, above}}
	if above >= api.MaxDepth {
		return parts
	}
	for _, kid := range f.Kids {
		parts = append(parts, modelParts(kid, above+1)...)
	}
	return parts
}

// modelCheck does what P9.1 says, of filters of few parts.
func modelCheck(f api.Filter) (api.Errno, int, int) {
	nodes, depth := 0, 0
	for _, p := range modelParts(f, 0) {
		if p.part.Kind != api.FNot {
			nodes++
		}
		texts := append([]string{p.part.Desc, p.part.Value, p.part.Start, p.part.End, p.part.Rule}, p.part.Middles...)
		if p.above > api.MaxDepth-1 {
			return api.ErrDeep, 0, 0
		}
		if p.part.Kind != api.FNot && nodes > api.MaxNodes || slices.ContainsFunc(texts, func(text string) bool { return len(text) > api.MaxText }) {
			return api.ErrLong, 0, 0
		}
		if !modelMayBe(p.part) {
			return api.ErrFilter, 0, 0
		}
		depth = max(depth, p.above+1)
	}
	return api.OK, nodes, depth
}

func modelTakes(f api.Filter) bool {
	e, _, _ := modelCheck(f)
	return e == api.OK
}

// modelCmp does what P9.2 says.
func modelCmp(a, b api.Filter) int {
	takesA, takesB := modelTakes(a), modelTakes(b)
	switch {
	case !takesA && !takesB:
		return 0
	case !takesB:
		return -1
	case !takesA:
		return 1
	case a.Kind != b.Kind:
		return sign(int(a.Kind) - int(b.Kind))
	}
	for _, texts := range [][][]string{{{a.Desc, a.Value, a.Start}, {b.Desc, b.Value, b.Start}}, {a.Middles, b.Middles}, {{a.End, a.Rule}, {b.End, b.Rule}}} {
		if c := modelLists(texts[0], texts[1], strings.Compare); c != 0 {
			return c
		}
	}
	if a.Dn != b.Dn {
		if b.Dn {
			return -1
		}
		return 1
	}
	return modelLists(a.Kids, b.Kids, modelCmp)
}

// modelLists goes by the first two that differ; a beginning comes first.
func modelLists[T any](a, b []T, by func(a, b T) int) int {
	for i := 0; i < len(a) && i < len(b); i++ {
		if c := by(a[i], b[i]); c != 0 {
			return c
		}
	}
	return sign(len(a) - len(b))
}

func sign(n int) int {
	switch {
	case n < 0:
		return -1
	case n > 0:
		return 1
	}
	return 0
}

// modelRule is a rule for equality by chapter 5's table, and its syntax.
func modelRule(name string) (rule, syntax int8) {
	table := []struct {
		name, oid    string
		rule, syntax int8
	}{
		{"caseIgnoreMatch", "2.5.13.2", api.RuleFold, api.SynText}, {"caseExactMatch", "2.5.13.5", api.RuleExact, api.SynText},
		{"numericStringMatch", "2.5.13.8", api.RuleDigits, api.SynDigits}, {"telephoneNumberMatch", "2.5.13.20", api.RulePhone, api.SynPhone},
		{"integerMatch", "2.5.13.14", api.RuleNumber, api.SynNumber}, {"booleanMatch", "2.5.13.13", api.RuleFlag, api.SynFlag},
		{"generalizedTimeMatch", "2.5.13.27", api.RuleTime, api.SynTime}, {"octetStringMatch", "2.5.13.17", api.RuleBytes, api.SynBytes},
		{"distinguishedNameMatch", "2.5.13.1", api.RuleName, api.SynName}, {"objectIdentifierMatch", "2.5.13.0", api.RuleOid, api.SynOid},
	}
	for _, row := range table {
		if strings.EqualFold(name, row.name) || name == row.oid {
			return row.rule, row.syntax
		}
	}
	return api.RuleNone, -1
}

// modelType is the type of a description; false, if it is not known.
func modelType(s *schema.Schema, desc string) (int, api.Type, []string, bool) {
	place, options, e := s.Desc(desc)
	if e != api.OK {
		return -1, api.Type{}, nil, false
	}
	return place, s.Full(place), options, true
}

// modelItemKnown does what the middle column of DOC.md's table says.
func modelItemKnown(s *schema.Schema, f api.Filter) bool {
	place, kind, _, known := modelType(s, f.Desc)
	hasKey := func(rule int8) bool {
		_, has := match.Key(s, rule, f.Value)
		return rule != api.RuleNone && has
	}
	switch f.Kind {
	case api.FEqual:
		return known && hasKey(kind.Equal)
	case api.FMore, api.FLess:
		return known && hasKey(kind.Order)
	case api.FHave:
		return known
	case api.FPart:
		return known && kind.Part != api.RuleNone && modelArePieces(kind.Part, f)
	case api.FLike:
		return known && match.Fits(s, place, f.Value) && (kind.Syntax == api.SynText || kind.Equal != api.RuleNone)
	}
	rule, syntax := modelRule(f.Rule)
	if f.Rule == "" {
		rule = kind.Equal
		syntax = kind.Syntax
	}
	if f.Desc != "" && (!known || kind.Syntax != syntax) {
		return false
	}
	return hasKey(rule)
}

func modelArePieces(rule int8, f api.Filter) bool {
	form, _ := schema.Form(rule)
	can := func(piece string, at int) bool {
		_, ok := prep.Piece(form, int8(at), piece)
		return ok
	}
	for _, middle := range f.Middles {
		if !can(middle, api.AtMiddle) {
			return false
		}
	}
	return (f.Start == "" || can(f.Start, api.AtStart)) && (f.End == "" || can(f.End, api.AtEnd))
}

// modelCovers: the type is the other one's or lies above it, and all options are among the other's.
func modelCovers(s *schema.Schema, desc, other string) bool {
	place, _, options, known := modelType(s, desc)
	below, _, more, knownToo := modelType(s, other)
	if !known || !knownToo || !slices.Contains(s.Below(place), below) {
		return false
	}
	for _, option := range options {
		if !slices.Contains(more, option) {
			return false
		}
	}
	return true
}

// modelLooked are the values at which an item looks, as DOC.md tells below its table.
func modelLooked(s *schema.Schema, f api.Filter, r api.Record) []string {
	looks := func(desc string) bool {
		if f.Kind == api.FRule && f.Desc == "" {
			_, syntax := modelRule(f.Rule)
			_, kind, _, known := modelType(s, desc)
			return known && kind.Syntax == syntax
		}
		return modelCovers(s, f.Desc, desc)
	}
	var values []string
	for _, attr := range r.Entry.Attrs {
		if looks(attr.Desc) {
			values = append(values, attr.Values...)
		}
	}
	if !f.Dn {
		return values
	}
	for _, rdn := range r.Name.Rdns {
		for _, ava := range rdn.Avas {
			if place := s.Type(ava.Type); place >= 0 && looks(s.Full(place).Oid) {
				values = append(values, ava.Value)
			}
		}
	}
	return values
}

// modelMatches does what the right column of DOC.md's table says, of one value.
func modelMatches(s *schema.Schema, f api.Filter, value string) bool {
	place, kind, _, _ := modelType(s, f.Desc)
	rule := kind.Equal
	switch f.Kind {
	case api.FHave:
		return true
	case api.FPart:
		return match.Part(s, kind.Part, value, f.Start, f.Middles, f.End) == api.Yes
	case api.FLike:
		return match.Like(s, place, value, f.Value) == api.Yes
	case api.FMore:
		return match.From(s, kind.Order, value, f.Value) == api.Yes
	case api.FLess:
		return match.UpTo(s, kind.Order, value, f.Value) == api.Yes
	case api.FRule:
		if f.Rule != "" {
			rule, _ = modelRule(f.Rule)
		}
	}
	return match.Equal(s, rule, value, f.Value) == api.Yes
}

// modelSays does what DOC.md says of a filter that may be.
func modelSays(s *schema.Schema, f api.Filter, r api.Record) api.Truth {
	var kids []api.Truth
	for _, kid := range f.Kids {
		kids = append(kids, modelSays(s, kid, r))
	}
	switch f.Kind {
	case api.FAnd:
		return modelJoin(kids, api.No, api.Yes)
	case api.FOr:
		return modelJoin(kids, api.Yes, api.No)
	case api.FNot:
		return []api.Truth{api.No: api.Yes, api.Yes: api.No, api.Unknown: api.Unknown}[kids[0]]
	}
	if !modelItemKnown(s, f) {
		return api.Unknown
	}
	if slices.ContainsFunc(modelLooked(s, f, r), func(value string) bool { return modelMatches(s, f, value) }) {
		return api.Yes
	}
	return api.No
}

func modelJoin(kids []api.Truth, first, last api.Truth) api.Truth {
	switch {
	case slices.Contains(kids, first):
		return first
	case slices.Contains(kids, api.Unknown):
		return api.Unknown
	}
	return last
}

// modelItems are a filter's items in order, and how many parts stand above each.
func modelItems(f api.Filter) []placed {
	return slices.DeleteFunc(modelParts(f, 0), func(p placed) bool { return p.part.Kind <= api.FNot })
}

func modelKnown(s *schema.Schema, f api.Filter) bool {
	return !slices.ContainsFunc(modelItems(f), func(p placed) bool { return !modelItemKnown(s, p.part) })
}

// modelReads does what P9.5 says, of a filter that may be.
func modelReads(s *schema.Schema, f api.Filter, desc string) bool {
	_, kind, _, known := modelType(s, desc)
	return known && slices.ContainsFunc(modelItems(f), func(p placed) bool {
		if p.part.Kind == api.FRule && p.part.Desc == "" {
			_, syntax := modelRule(p.part.Rule)
			return syntax == kind.Syntax
		}
		return modelCovers(s, p.part.Desc, desc)
	})
}

// randomDescs are many that are known, some of which cover others, and some that are not.
var randomDescs = []string{
	"cn", "CN", "commonName", "2.5.4.3", "cn;x", "cn;X;y", "cn;y", "name", "name", "Name;x", "sn", "surname;x", "ou", "OU;x;y;z", "age", "age", "AGE;x", "1.1", "years", "years;x", "tally", "photo", "photo;x",
	"blob", "flag", "moment", "phone", "digits", "seeAlso", "bareName", "bare", "objectClass", "bareOid",
	"zz", "zz;x", "9.9", "dn", "cn;a;b;c;d;e;f;g;h", "cn;a;b;c;d;e;f;g;h;i",
}

// wrongDescs are some that may not stand in a filter.
var wrongDescs = []string{"", "c n", "cn;", ";x", "1", "01.2", "cn;ä", "cn=", "*"}

var randomRules = []string{
	"caseIgnoreMatch", "CASEIGNOREMATCH", "2.5.13.2", "caseExactMatch", "2.5.13.5", "integerMatch", "integerMatch", "octetStringMatch", "objectIdentifierMatch", "distinguishedNameMatch",
	"booleanMatch", "generalizedTimeMatch", "telephoneNumberMatch", "numericStringMatch", "caseIgnoreOrderingMatch", "caseIgnoreSubstringsMatch", "integerOrderingMatch", "noMatch", "2.5.13.99", "1.2",
}

// randomValues has of each syntax some that fit, many of them alike.
var randomValues = []string{
	"a", "A", " a ", "b", "B", "ab", "aba", "a  B", "A b", "é", "", " ", "\xff", "Robert", "Rupert",
	"0", "1", "-1", "9", "10", "-10", "99", "01", "-0", "1 0", "5",
	"TRUE", "FALSE", "true", "20240229235959Z", "20240229235959.0Z", "20240301005959+0100", "20250101000000Z",
	"+49 30", "+4930", "-", "person", "PERSON", "2.5.6.6", "top", "human", "cn", "2.5.4.3", "cn=a", "CN=A", "2.5.4.3=a", "cn=b", "zz=a",
}

var randomPieces = []string{"a", "A", "b", "ab", "ba", "a b", " ", "1", "0", "-", "+", "9", "é", "\xff", "x"}

// dice make filters and records by chance, always the same ones.
type dice struct {
	*rand.Rand
	s    *schema.Schema
	fits [][]string // by the types' places the values that fit
}

func diceOf(t testing.TB, seed int64) dice {
	s := testSchema(t)
	d := dice{rand.New(rand.NewSource(seed)), s, nil}
	for place := range s.Plain().Types {
		d.fits = append(d.fits, slices.DeleteFunc(slices.Clone(randomValues), func(value string) bool { return !match.Fits(s, place, value) }))
	}
	return d
}

func (d dice) of(texts []string) string { return texts[d.Intn(len(texts))] }

// value is mostly one that fits the description's type.
func (d dice) value(desc string) string {
	if place, _, e := d.s.Desc(desc); e == api.OK && d.Intn(8) > 0 {
		return d.of(d.fits[place])
	}
	return d.of(randomValues)
}

// item may be.
func (d dice) item() api.Filter {
	f := api.Filter{Kind: int8(api.FEqual + d.Intn(api.FRule-api.FEqual+1)), Desc: d.of(randomDescs)}
	switch f.Kind {
	case api.FPart:
		for range d.Intn(3) {
			f.Middles = append(f.Middles, d.of(randomPieces))
		}
		if d.Intn(2) == 0 {
			f.Start = d.of(randomPieces)
		}
		if d.Intn(2) == 0 || f.Start == "" && len(f.Middles) == 0 {
			f.End = d.of(randomPieces)
		}
	case api.FRule:
		f.Value, f.Dn = d.value(f.Desc), d.Intn(2) == 0
		if d.Intn(3) > 0 {
			f.Rule = d.of(randomRules)
			if d.Intn(2) == 0 {
				f.Desc = ""
			}
		}
	case api.FHave:
	default:
		f.Value = d.value(f.Desc)
	}
	return f
}

// filter may be.
func (d dice) filter(most int) api.Filter {
	if most <= 1 || d.Intn(4) == 0 {
		return d.item()
	}
	f := api.Filter{Kind: int8(d.Intn(api.FNot + 1))}
	many := 1
	if f.Kind != api.FNot {
		many += d.Intn(3)
	}
	for range many {
		f.Kids = append(f.Kids, d.filter(most-1))
	}
	return f
}

// spoilt has something that may not be at some part, mostly.
func (d dice) spoilt(f api.Filter) api.Filter {
	if len(f.Kids) > 0 && d.Intn(3) > 0 {
		f.Kids = slices.Clone(f.Kids)
		at := d.Intn(len(f.Kids))
		f.Kids[at] = d.spoilt(f.Kids[at])
		return f
	}
	switch d.Intn(10) {
	case 0:
		f.Kind = int8(d.Intn(256) - 128)
	case 1:
		f.Kind = int8(d.Intn(api.FRule + 1))
	case 2:
		f.Desc = d.of(wrongDescs)
	case 3:
		f.Value = d.of(randomValues)
	case 4:
		f.Start = d.of(randomPieces)
	case 5:
		f.Middles = append(slices.Clone(f.Middles), d.of([]string{"", "a"}))
	case 6:
		f.End = d.of(randomPieces)
	case 7:
		f.Rule = d.of([]string{"", "dn", "DN", "a", "a;b", "1", "1.2"})
	case 8:
		f.Dn = !f.Dn
	case 9:
		f.Kids = slices.Repeat([]api.Filter{d.item()}, d.Intn(3))
	}
	return f
}

// record has attributes and pairs of a name, many of them of descriptions that stand in the filter.
func (d dice) record(f api.Filter) api.Record {
	descs := slices.Clone(randomDescs)
	for _, p := range modelItems(f) {
		if p.part.Desc != "" {
			descs = append(descs, slices.Repeat([]string{p.part.Desc, p.part.Desc + ";x"}, 10)...)
		}
	}
	r := api.Record{Id: d.Uint64()}
	for range d.Intn(5) {
		attr := api.Attr{Desc: d.of(descs)}
		if d.Intn(10) == 0 {
			attr.Desc = d.of(wrongDescs)
		}
		for range d.Intn(4) {
			attr.Values = append(attr.Values, d.value(attr.Desc))
		}
		r.Entry.Attrs = append(r.Entry.Attrs, attr)
	}
	for range d.Intn(3) {
		var avas []api.Ava
		for range d.Intn(3) {
			word := d.of(descs)
			avas = append(avas, api.Ava{Type: word, Value: d.value(word)})
		}
		r.Name.Rdns = append(r.Name.Rdns, api.Rdn{Avas: avas})
	}
	return r
}
