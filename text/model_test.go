package text_test

import (
	"errors"
	"fmt"
	"math/rand"
	"regexp"
	"slices"
	"strings"
	"testing"
	"unicode/utf8"

	"roster/api"
	"roster/filter"
	"roster/text"
)

func item(kind int8, desc, value string) api.Filter {
	return api.Filter{Kind: kind, Desc: desc, Value: value}
}

func equal(desc, value string) api.Filter { return item(api.FEqual, desc, value) }

func have(desc string) api.Filter { return item(api.FHave, desc, "") }

func part(desc, start, end string, middles ...string) api.Filter {
	return api.Filter{Kind: api.FPart, Desc: desc, Start: start, Middles: middles, End: end}
}

func rule(desc, name, value string) api.Filter {
	return api.Filter{Kind: api.FRule, Desc: desc, Rule: name, Value: value}
}

func ruleDn(desc, name, value string) api.Filter {
	return api.Filter{Kind: api.FRule, Desc: desc, Rule: name, Value: value, Dn: true}
}

func and(kids ...api.Filter) api.Filter { return api.Filter{Kind: api.FAnd, Kids: kids} }

func or(kids ...api.Filter) api.Filter { return api.Filter{Kind: api.FOr, Kids: kids} }

func not(kid api.Filter) api.Filter { return api.Filter{Kind: api.FNot, Kids: []api.Filter{kid}} }

// around has so many of a kind, one in the other, around f.
func around(kind int8, many int, f api.Filter) api.Filter {
	for range many {
		f = api.Filter{Kind: kind, Kids: []api.Filter{f}}
	}
	return f
}

func brief(x any) string {
	text := fmt.Sprintf("%q", x)
	if len(text) > 300 {
		return fmt.Sprintf("%s..%s (%d bytes)", text[:150], text[len(text)-100:], len(text))
	}
	return text
}

func shown(f api.Filter) string {
	text := fmt.Sprintf("%d %s %s %s*%s*%s %s %v", f.Kind, brief(f.Desc), brief(f.Value), brief(f.Start), brief(f.Middles), brief(f.End), brief(f.Rule), f.Dn)
	var kids []string
	for _, kid := range f.Kids[:min(len(f.Kids), 5)] {
		kids = append(kids, shown(kid))
	}
	text += fmt.Sprintf(" %d:(%s)", len(f.Kids), strings.Join(kids, ", "))
	if len(text) > 600 {
		return fmt.Sprintf("%s.. (%d bytes)", text[:600], len(text))
	}
	return text
}

// isSame holds two filters against one another; lists without anything are the same (R6).
func isSame(a, b api.Filter) bool {
	return a.Kind == b.Kind && a.Desc == b.Desc && a.Value == b.Value && a.Start == b.Start && a.End == b.End && a.Rule == b.Rule && a.Dn == b.Dn &&
		slices.Equal(a.Middles, b.Middles) && slices.EqualFunc(a.Kids, b.Kids, isSame)
}

const (
	wordForm = `(?:[A-Za-z][A-Za-z0-9-]*|(?:0|[1-9][0-9]*)(?:\.(?:0|[1-9][0-9]*))+)`
	descForm = wordForm + `(?:;[A-Za-z0-9-]+)*`
)

var (
	ofDesc   = regexp.MustCompile(`^` + descForm + `$`)
	ofItem   = regexp.MustCompile(`(?s)^(` + descForm + `)?(:[dD][nN])?(?::(` + wordForm + `))?(:=|=|~=|>=|<=)(.*)$`)
	ofDn     = regexp.MustCompile(`^[dD][nN]$`)
	ofEscape = regexp.MustCompile(`\\[0-9a-fA-F]{2}`)
	dnAhead  = regexp.MustCompile(`\([^()=:]*:[dD][nN]:$`)
	dnBehind = regexp.MustCompile(`^[dD][nN](?:$|[^A-Za-z0-9-])`)
)

// modelValue tells what a value's text means, if it is one.
func modelValue(s string) (string, bool) {
	if !utf8.ValidString(s) || strings.ContainsAny(s, "\x00()*") || strings.Contains(ofEscape.ReplaceAllString(s, ""), `\`) {
		return "", false
	}
	return ofEscape.ReplaceAllStringFunc(s, func(escape string) string {
		var b byte
		fmt.Sscanf(escape[1:], "%x", &b)
		return string([]byte{b})
	}), true
}

func modelPieces(desc, s string) (api.Filter, bool) {
	f := api.Filter{Kind: api.FPart, Desc: desc}
	all := strings.Split(s, "*")
	for i, piece := range all {
		value, ok := modelValue(piece)
		switch {
		case !ok:
			return api.Filter{}, false
		case i == 0:
			f.Start = value
		case i == len(all)-1:
			f.End = value
		case value != "":
			f.Middles = append(f.Middles, value)
		}
	}
	if f.Start == "" && f.Middles == nil && f.End == "" {
		f = have(desc)
	}
	return f, true
}

func modelItem(s string) (api.Filter, bool) {
	parts := ofItem.FindStringSubmatch(s)
	if parts == nil {
		return api.Filter{}, false
	}
	desc, dn, name, sign := parts[1], parts[2], parts[3], parts[4]
	if sign == ":=" {
		value, ok := modelValue(parts[5])
		if !ok || desc == "" && name == "" || ofDn.MatchString(name) {
			return api.Filter{}, false
		}
		return api.Filter{Kind: api.FRule, Desc: desc, Dn: dn != "", Rule: name, Value: value}, true
	}
	if desc == "" || dn != "" || name != "" {
		return api.Filter{}, false
	}
	if sign == "=" && strings.Contains(parts[5], "*") {
		return modelPieces(desc, parts[5])
	}
	value, ok := modelValue(parts[5])
	if !ok {
		return api.Filter{}, false
	}
	return item(map[string]int8{"=": api.FEqual, "~=": api.FLike, ">=": api.FMore, "<=": api.FLess}[sign], desc, value), true
}

// modelFilters parts a row of filters: no value has a bare ( or ) in it.
func modelFilters(s string) ([]api.Filter, bool) {
	var all []api.Filter
	open, from := 0, 0
	for i := range len(s) {
		switch s[i] {
		case '(':
			open++
		case ')':
			open--
		}
		if open > 0 {
			continue
		}
		f, ok := modelFilter(s[from : i+1])
		if !ok {
			return nil, false
		}
		all, from = append(all, f), i+1
	}
	return all, open == 0
}

// modelFilter does what the grammar says; it knows of no bounds.
func modelFilter(s string) (api.Filter, bool) {
	if len(s) < 3 || s[0] != '(' || s[len(s)-1] != ')' {
		return api.Filter{}, false
	}
	body := s[1 : len(s)-1]
	at := strings.IndexByte("&|!", body[0])
	if at < 0 {
		return modelItem(body)
	}
	kids, ok := modelFilters(body[1:])
	if !ok || len(kids) == 0 || body[0] == '!' && len(kids) > 1 {
		return api.Filter{}, false
	}
	return api.Filter{Kind: []int8{api.FAnd, api.FOr, api.FNot}[at], Kids: kids}, true
}

// isKnown tells whether the grammar knows s, when all that is open in it is closed.
func isKnown(s string) bool {
	open := strings.Count(s, "(") - strings.Count(s, ")")
	if open < 0 {
		return false
	}
	_, ok := modelFilter(s + strings.Repeat(")", open))
	return ok
}

var begun = map[string]int{}

// isBegun tells whether s is the beginning of a text that the grammar knows, and does not end within an escape or a character. Each state of the grammar has one of these texts that ends it.
func isBegun(s string) bool {
	if known, ok := begun[s]; ok {
		return known > 0
	}
	begun[s] = 0
	for _, rest := range []string{"", "=", "a=", "(a=)", ".1=", "1=", ":=", "a:=", ":a:=", ".1:=", "1:="} {
		if isKnown(s + rest) {
			begun[s] = 1
			return true
		}
	}
	return false
}

// modelUnit tells how many bytes an escape or a character at the beginning of s has, or why there is none that a value may have.
func modelUnit(s string) (int, api.Errno) {
	if s[0] == '\\' {
		if at := ofEscape.FindStringIndex(s); at == nil || at[0] != 0 {
			return 0, api.ErrHex
		}
		return 3, api.OK
	}
	r, size := utf8.DecodeRuneInString(s)
	switch {
	case r == utf8.RuneError && size == 1:
		return 0, api.ErrUTF
	case strings.ContainsRune("\x00()*", r):
		return 0, api.ErrEscape
	}
	return size, api.OK
}

// modelFault tells the first thing in s that cannot stand; of texts within the bounds that the grammar does not know.
func modelFault(s string) api.Fault {
	for at := 0; at < len(s); {
		wrong, size := api.OK, 1
		switch {
		case isKnown(s[:at]+"x") && s[at] != ')': // in a value
			if s[at] != '*' || !isKnown(s[:at]+"*") {
				size, wrong = modelUnit(s[at:])
			}
		case dnAhead.MatchString(s[:at]) && dnBehind.MatchString(s[at:]), !isBegun(s[:at+1]):
			wrong = api.ErrSyntax
		}
		if wrong != api.OK {
			return api.Fault{Code: wrong, At: at, Word: s[at : at+1]}
		}
		at += size
	}
	return api.Fault{Code: api.ErrShort, At: len(s)}
}

func checkTaken(t *testing.T, s string, want api.Filter) {
	t.Helper()
	if f, err := text.Parse(s); err != nil || !isSame(f, want) {
		t.Errorf("Parse(%s) is %s, %v; want %s", brief(s), shown(f), err, shown(want))
	}
}

func checkFault(t *testing.T, s string, want api.Fault) {
	t.Helper()
	f, err := text.Parse(s)
	var fault *api.Fault
	if !errors.As(err, &fault) || *fault != want || !errors.Is(err, want.Code) {
		t.Errorf("Parse(%s) tells %q; want %q", brief(s), err, &want)
	}
	if !isSame(f, api.Filter{}) {
		t.Errorf("Parse(%s) has %s beside its fault", brief(s), shown(f))
	}
}

// checkParse holds Parse against the model, of a text within the bounds; it tells whether the text is a filter.
func checkParse(t *testing.T, s string) bool {
	t.Helper()
	want, ok := modelFilter(s)
	if !ok {
		checkFault(t, s, modelFault(s))
		return false
	}
	checkTaken(t, s, want)
	checkBack(t, s)
	return true
}

// checkBack: P10.4, of a text that Parse takes.
func checkBack(t *testing.T, s string) {
	t.Helper()
	f, err := text.Parse(s)
	if err != nil {
		t.Errorf("Parse(%s): %v", brief(s), err)
		return
	}
	if wrong, _, _ := filter.Check(f); wrong != api.OK {
		t.Errorf("Parse(%s) is %s, which may not be: %v", brief(s), shown(f), wrong)
	}
	// No sign becomes longer: what was taken can be written.
	printed, wrong := text.Print(f)
	if wrong != api.OK || len(printed) > len(s) {
		t.Errorf("Print(%s) is %s, %v", shown(f), brief(printed), wrong)
		return
	}
	checkTaken(t, printed, f)
}

// escaped escapes what a value may not have bare, and of the rest what also says.
func escaped(s string, also func() bool, digits func(string) string) string {
	out := ""
	for s != "" {
		size, wrong := modelUnit(s)
		bare := wrong == api.OK && s[0] != '\\'
		if !bare {
			size = 1
		}
		if bare && !also() {
			out += s[:size]
		} else {
			out += digits(s[:size])
		}
		s = s[size:]
	}
	return out
}

func modelEscape(s string) string {
	return escaped(s, func() bool { return false }, ofBytes)
}

func ofBytes(s string) string {
	out := ""
	for i := range len(s) {
		out += fmt.Sprintf(`\%02x`, s[i])
	}
	return out
}

// written is the text of a filter that may be, by the ways in which values, the * between pieces and the word dn are written.
func written(f api.Filter, value func(string) string, stars, dn func() string) string {
	out := "(" + f.Desc
	switch f.Kind {
	case api.FAnd, api.FOr, api.FNot:
		out += "&|!"[f.Kind : f.Kind+1]
		for _, kid := range f.Kids {
			out += written(kid, value, stars, dn)
		}
	case api.FHave:
		out += "=" + stars()
	case api.FPart:
		out += "=" + value(f.Start)
		for _, piece := range slices.Concat(f.Middles, []string{f.End}) {
			out += stars() + value(piece)
		}
	case api.FRule:
		if f.Dn {
			out += ":" + dn()
		}
		if f.Rule != "" {
			out += ":" + f.Rule
		}
		out += ":=" + value(f.Value)
	default:
		out += map[int8]string{api.FEqual: "=", api.FLike: "~=", api.FMore: ">=", api.FLess: "<="}[f.Kind] + value(f.Value)
	}
	return out + ")"
}

// modelPrint: of a filter that may be.
func modelPrint(f api.Filter) string {
	return written(f, modelEscape, func() string { return "*" }, func() string { return "dn" })
}

// dice makes filters by chance that may be.
type dice struct{ *rand.Rand }

func diceOf(seed int64) dice { return dice{rand.New(rand.NewSource(seed))} }

func (d dice) pick(words ...string) string { return words[d.Intn(len(words))] }

func (d dice) word() string {
	return d.pick("a", "cn", "dn", "DN", "Z-9-", "dnx", "xdn", "2.5.4.3", "0.0", "10.0.200", "objectClass")
}

func (d dice) rule() string {
	for {
		if word := d.word(); !ofDn.MatchString(word) {
			return word
		}
	}
}

func (d dice) desc() string {
	desc := d.word()
	for range d.Intn(3) {
		desc += ";" + d.pick("x", "-", "9", "lang-DE", "dn")
	}
	return desc
}

func (d dice) piece() string {
	return d.pick("a", "b c", "*", "(", ")", "\\", "\x00", "é", "€", "😀", "\ufffd", "\xff", "\xc3", "\xa9", "\xe2\x82", "\xed\xa0\x80", "&", "=", ":", ";", "\\2a", "\n", "\x7f", "'\"")
}

func (d dice) value() string {
	value := ""
	for range d.Intn(4) {
		value += d.piece()
	}
	return value
}

func (d dice) item() api.Filter {
	switch kind := int8(api.FEqual + d.Intn(7)); kind {
	case api.FHave:
		return have(d.desc())
	case api.FPart:
		f := part(d.desc(), d.value(), d.value())
		for range d.Intn(4) {
			f.Middles = append(f.Middles, d.piece()+d.value())
		}
		if f.Start+f.End == "" && len(f.Middles) == 0 {
			f.Start = d.piece()
		}
		return f
	case api.FRule:
		f := api.Filter{Kind: kind, Desc: d.desc(), Value: d.value(), Dn: d.Intn(2) == 0}
		if d.Intn(2) == 0 {
			f.Rule = d.rule()
			f.Desc = d.pick(f.Desc, "")
		}
		return f
	default:
		return item(kind, d.desc(), d.value())
	}
}

func (d dice) filter(depth int) api.Filter {
	if depth == 1 || d.Intn(3) == 0 {
		return d.item()
	}
	if d.Intn(3) == 0 {
		return not(d.filter(depth - 1))
	}
	f := api.Filter{Kind: int8(d.Intn(2))}
	for range 1 + d.Intn(3) {
		f.Kids = append(f.Kids, d.filter(depth-1))
	}
	return f
}

// loose writes a filter as freely as the grammar lets: some escapes that need not be, digits small and great, empty pieces, dn in any letters.
func (d dice) loose(f api.Filter) string {
	value := func(s string) string {
		return escaped(s, func() bool { return d.Intn(4) == 0 }, func(s string) string { return d.pick(ofBytes(s), strings.ToUpper(ofBytes(s))) })
	}
	stars := func() string { return d.pick("*", "*", "*", "**", "***") }
	return written(f, value, stars, func() string { return d.pick("dn", "dN", "Dn", "DN") })
}
