package name_test

import (
	"errors"
	"fmt"
	"math/rand"
	"reflect"
	"regexp"
	"slices"
	"sort"
	"strconv"
	"strings"
	"testing"
	"unicode/utf8"

	"roster/api"
	"roster/name"
	"roster/prep"
	"roster/schema"
)

// The first five types are those of the chapter's examples.
func plainSchema() api.Schema {
	return api.Schema{
		Types: []api.Type{
			{Oid: "2.5.4.0", Names: []string{"objectClass"}, Syntax: api.SynOid, Equal: api.RuleOid},
			{Oid: "2.5.4.3", Names: []string{"cn", "commonName"}, Equal: api.RuleFold},
			{Oid: "2.5.4.11", Names: []string{"ou"}, Equal: api.RuleFold},
			{Oid: "2.5.4.34", Names: []string{"seeAlso", "s"}, Syntax: api.SynName, Equal: api.RuleName},
			{Oid: "1.1", Names: []string{"photo"}, Syntax: api.SynBytes},
			{Oid: "1.5", Names: []string{"exact"}, Equal: api.RuleExact},
			{Oid: "1.6", Names: []string{"digits"}, Syntax: api.SynDigits, Equal: api.RuleDigits},
			{Oid: "1.7", Names: []string{"phone"}, Syntax: api.SynPhone, Equal: api.RulePhone},
			{Oid: "1.8", Names: []string{"number"}, Syntax: api.SynNumber, Equal: api.RuleNumber},
			{Oid: "1.9", Names: []string{"flag"}, Syntax: api.SynFlag, Equal: api.RuleFlag},
			{Oid: "1.10", Names: []string{"time"}, Syntax: api.SynTime, Equal: api.RuleTime},
			{Oid: "1.11", Names: []string{"bytes"}, Syntax: api.SynBytes, Equal: api.RuleBytes},
			{Oid: "1.12", Names: []string{"sn"}, Sup: "cn"},
			{Oid: "1.13", Names: []string{"bareText"}},
			{Oid: "1.14", Names: []string{"bareDigits"}, Syntax: api.SynDigits},
			{Oid: "1.15", Names: []string{"barePhone"}, Syntax: api.SynPhone},
			{Oid: "1.16", Names: []string{"bareNumber"}, Syntax: api.SynNumber},
			{Oid: "1.17", Names: []string{"bareFlag"}, Syntax: api.SynFlag},
			{Oid: "1.18", Names: []string{"bareTime"}, Syntax: api.SynTime},
			{Oid: "1.19", Names: []string{"bareName", "n"}, Syntax: api.SynName},
			{Oid: "1.20", Names: []string{"bareOid"}, Syntax: api.SynOid},
			{Oid: "1.21", Names: []string{"owner"}, Sup: "seeAlso", Syntax: api.SynName},
		},
		Classes: []api.Class{
			{Oid: "2.5.6.0", Names: []string{"top"}, Kind: api.ClAbstract},
			{Oid: "2.5.6.6", Names: []string{"person", "human"}, Sups: []string{"top"}, Kind: api.ClStructural},
			{Oid: "2.5.6.7", Names: []string{"ou"}, Kind: api.ClAuxiliary},     // a type has this name, too
			{Oid: "2.5.4.3", Names: []string{"called"}, Kind: api.ClAuxiliary}, // and this Oid
		},
	}
}

func testSchema(t testing.TB) *schema.Schema {
	t.Helper()
	s, e, at := schema.New(plainSchema())
	if e != api.OK {
		t.Fatalf("the schema is refused: %v at %d", e, at)
	}
	return s
}

// named makes a name of parts, each a row of types and values in turn.
func named(parts ...[]string) api.Name {
	var n api.Name
	for _, part := range parts {
		n.Rdns = append(n.Rdns, rdn(part...))
	}
	return n
}

func rdn(words ...string) api.Rdn {
	var r api.Rdn
	for k := 0; k < len(words); k += 2 {
		r.Avas = append(r.Avas, api.Ava{Type: words[k], Value: words[k+1]})
	}
	return r
}

func pairs(words ...string) []string { return words }

// same holds names against each other; nil and empty lists are the same.
func same(a, b api.Name) bool {
	return slices.EqualFunc(a.Rdns, b.Rdns, func(a, b api.Rdn) bool { return slices.Equal(a.Avas, b.Avas) })
}

func mustParse(t testing.TB, s string) api.Name {
	t.Helper()
	n, err := name.Parse(s)
	if err != nil {
		t.Fatalf("Parse(%s): %v", brief(s), err)
	}
	return n
}

func brief(s string) string {
	if len(s) > 80 {
		return fmt.Sprintf("%q.. (%d bytes)", s[:80], len(s))
	}
	return fmt.Sprintf("%q", s)
}

func copied(n api.Name) api.Name {
	var twin api.Name
	for _, r := range n.Rdns {
		twin.Rdns = append(twin.Rdns, api.Rdn{Avas: slices.Clone(r.Avas)})
	}
	return twin
}

// The texts of names as a pattern.
const (
	wordPattern   = `(?:[A-Za-z][A-Za-z0-9-]*|(?:0|[1-9][0-9]*)(?:\.(?:0|[1-9][0-9]*))+)`
	escapePattern = `\\(?:["+,;<>=# \\]|[0-9a-fA-F]{2})`
	firstPattern  = `(?:` + escapePattern + `|[^\x00"+,;<>\\ #])`
	midPattern    = `(?:` + escapePattern + `|[^\x00"+,;<>\\])`
	lastPattern   = `(?:` + escapePattern + `|[^\x00"+,;<>\\ ])`
	valuePattern  = `(?:` + firstPattern + `(?:` + midPattern + `*` + lastPattern + `)?)?`
	pairPattern   = wordPattern + `=` + valuePattern
	partPattern   = pairPattern + `(?:\+` + pairPattern + `)*`
)

var (
	anyWord   = regexp.MustCompile(`\A` + wordPattern + `\z`)
	anyEscape = regexp.MustCompile(escapePattern)
	anyName   = regexp.MustCompile(`\A(?:` + partPattern + `(?:,` + partPattern + `)*)?\z`)
)

// goesOn tells whether some name's text begins so: one of these ends makes one of each such beginning.
func goesOn(s string) bool {
	for _, end := range []string{"", "a", "=", "a=", ".0=", "0=", "0", "00"} {
		if anyName.MatchString(s + end) {
			return true
		}
	}
	return false
}

// bare has x in the place of each byte of each escape.
func bare(s string) string {
	return anyEscape.ReplaceAllStringFunc(s, func(e string) string { return strings.Repeat("x", len(e)) })
}

func meant(s string) string {
	return anyEscape.ReplaceAllStringFunc(s, func(e string) string {
		if len(e) == 2 {
			return e[1:]
		}
		b, _ := strconv.ParseUint(e[1:], 16, 8)
		return string([]byte{byte(b)})
	})
}

// modelParse does what P6.1 says by the patterns alone.
func modelParse(s string) (api.Name, *api.Fault) {
	if len(s) > api.MaxText {
		return api.Name{}, &api.Fault{Code: api.ErrLong}
	}
	code, at := firstWrong(s)
	if place := firstTooMany(s); place >= 0 && (code == api.OK || place < at) {
		code, at = api.ErrLong, place
	}
	if code == api.OK {
		return takenApart(s), nil
	}
	f := &api.Fault{Code: code, At: at}
	if at < len(s) {
		f.Word = s[at : at+1]
	}
	return api.Name{}, f
}

func firstWrong(s string) (api.Errno, int) {
	if anyName.MatchString(s) {
		return api.OK, 0
	}
	at := sort.Search(len(s), func(k int) bool { return !goesOn(s[:k+1]) })
	right := bare(s[:at])
	if slash := strings.IndexByte(right, '\\'); slash >= 0 {
		return api.ErrHex, slash
	}
	if (at == len(s) || s[at] == ',' || s[at] == '+') && strings.HasSuffix(right, " ") {
		return api.ErrSyntax, at - 1
	}
	if at == len(s) {
		return api.ErrShort, at
	}
	return api.ErrSyntax, at
}

func firstTooMany(s string) int {
	parts, pairs := 1, 1
	for at, sign := range []byte(bare(s)) {
		switch sign {
		case ',':
			parts++
			pairs = 1
		case '+':
			pairs++
		}
		if parts > api.MaxRdns || pairs > api.MaxAvas {
			return at
		}
	}
	return -1
}

// takenApart cuts a text that is one at its bare signs.
func takenApart(s string) api.Name {
	var n api.Name
	if s == "" {
		return n
	}
	for _, part := range cutAt(s, ',') {
		var r api.Rdn
		for _, pair := range cutAt(part, '+') {
			word, value, _ := strings.Cut(pair, "=")
			r.Avas = append(r.Avas, api.Ava{Type: word, Value: meant(value)})
		}
		n.Rdns = append(n.Rdns, r)
	}
	return n
}

func cutAt(s string, sign byte) []string {
	var out []string
	from := 0
	for at, b := range []byte(bare(s)) {
		if b == sign {
			out = append(out, s[from:at])
			from = at + 1
		}
	}
	return append(out, s[from:])
}

func checkParse(t *testing.T, s string) {
	t.Helper()
	want, wantFault := modelParse(s)
	n, err := name.Parse(s)
	if wantFault == nil {
		if err != nil || !same(n, want) {
			t.Errorf("Parse(%s) = %q, %v, want %q", brief(s), n, err, want)
		}
		return
	}
	checkFault(t, s, n, err, *wantFault)
}

func checkFault(t *testing.T, s string, n api.Name, err error, want api.Fault) {
	t.Helper()
	var f *api.Fault
	if !errors.As(err, &f) || *f != want || !reflect.DeepEqual(n, api.Name{}) {
		t.Errorf("Parse(%s) = %q, %v, want %+v", brief(s), n, err, want)
	}
}

// modelPrint does what P6.2 says.
func modelPrint(n api.Name) (string, api.Errno) {
	for _, r := range n.Rdns {
		if len(r.Avas) > 8 {
			return "", api.ErrLong
		}
	}
	if len(n.Rdns) > 64 {
		return "", api.ErrLong
	}
	var parts []string
	for _, r := range n.Rdns {
		var texts []string
		for _, a := range r.Avas {
			if !anyWord.MatchString(a.Type) {
				return "", api.ErrName
			}
			texts = append(texts, a.Type+"="+modelValue(a.Value))
		}
		if len(texts) == 0 {
			return "", api.ErrName
		}
		parts = append(parts, strings.Join(texts, "+"))
	}
	s := strings.Join(parts, ",")
	if len(s) > 65536 {
		return "", api.ErrLong
	}
	return s, api.OK
}

func modelValue(v string) string {
	var out strings.Builder
	for at, r := range v {
		_, size := utf8.DecodeRuneInString(v[at:])
		switch {
		case r == utf8.RuneError && size == 1, r < 32, r == 127:
			fmt.Fprintf(&out, "\\%02x", v[at])
		case strings.ContainsRune("\"+,;<>\\", r), r == '#' && at == 0, r == ' ' && (at == 0 || at == len(v)-1):
			out.WriteString("\\" + string(r))
		default:
			out.WriteRune(r)
		}
	}
	return out.String()
}

// typePlace finds a type by a word in any case.
func typePlace(p api.Schema, word string) int {
	return slices.IndexFunc(p.Types, func(t api.Type) bool { return t.Oid == word || hasWord(t.Names, word) })
}

func classPlace(p api.Schema, word string) int {
	return slices.IndexFunc(p.Classes, func(c api.Class) bool { return c.Oid == word || hasWord(c.Names, word) })
}

func hasWord(names []string, word string) bool {
	return slices.ContainsFunc(names, func(name string) bool { return strings.ToLower(name) == strings.ToLower(word) })
}

// modelValueKey is a value's key under a type, as the chapter's Words have it.
func modelValueKey(p api.Schema, place int, value string) (string, bool) {
	t := p.Types[place]
	for up := t; t.Equal == api.RuleNone && up.Sup != ""; {
		up = p.Types[typePlace(p, up.Sup)]
		t.Equal = up.Equal
	}
	form := map[int8]int8{api.RuleFold: api.FormFold, api.RuleExact: api.FormExact, api.RuleDigits: api.FormDigits, api.RulePhone: api.FormPhone, api.RuleNumber: api.FormNumber, api.RuleFlag: api.FormFlag, api.RuleTime: api.FormTime, api.RuleBytes: api.FormBytes}
	fits := map[int8]int8{api.SynText: api.FormExact, api.SynDigits: api.FormDigits, api.SynPhone: api.FormPhone, api.SynNumber: api.FormNumber, api.SynFlag: api.FormFlag, api.SynTime: api.FormTime, api.SynBytes: api.FormBytes, api.SynOid: api.FormOid}
	switch {
	case t.Equal == api.RuleName, t.Equal == api.RuleNone && t.Syntax == api.SynName:
		n, fault := modelParse(value)
		if fault != nil {
			return "", false
		}
		key, e := modelKey(p, n)
		if t.Equal == api.RuleNone {
			key = value
		}
		return key, e == api.OK
	case t.Equal == api.RuleOid:
		key, ok := prep.Key(api.FormOid, value)
		if at := typePlace(p, key); at >= 0 {
			return p.Types[at].Oid, ok
		}
		if at := classPlace(p, key); at >= 0 {
			return p.Classes[at].Oid, ok
		}
		return key, ok
	case t.Equal == api.RuleNone:
		_, ok := prep.Key(fits[t.Syntax], value)
		return value, ok
	}
	return prep.Key(form[t.Equal], value)
}

// modelKey does what P6.3 says.
func modelKey(p api.Schema, n api.Name) (string, api.Errno) {
	if _, e := modelPrint(n); e != api.OK {
		return "", e
	}
	whole := ""
	for _, r := range n.Rdns {
		texts := map[int]string{}
		var places []int
		for _, a := range r.Avas {
			place := typePlace(p, a.Type)
			if place < 0 {
				return "", api.ErrType
			}
			if _, twice := texts[place]; twice {
				return "", api.ErrTwice
			}
			key, ok := modelValueKey(p, place, a.Value)
			if !ok {
				return "", api.ErrValue
			}
			texts[place] = fmt.Sprintf("%d=%d:%s", place, len(key), key)
			places = append(places, place)
		}
		sort.Ints(places)
		part := ""
		for _, place := range places {
			part += "+" + texts[place]
		}
		whole = part[1:] + ";" + whole
	}
	return whole, api.OK
}

func checkKey(t *testing.T, s *schema.Schema, n api.Name) {
	t.Helper()
	want, wantE := modelKey(plainSchema(), n)
	if got, e := name.Key(s, n); got != want || e != wantE {
		t.Errorf("Key(%q) = %s, %v, want %s, %v", n, brief(got), e, brief(want), wantE)
	}
}

// rowsOf has all rows of the pieces, up to so many.
func rowsOf(pieces []string, longest int) []string {
	rows, last := []string{""}, []string{""}
	for range longest {
		var next []string
		for _, row := range last {
			for _, piece := range pieces {
				next = append(next, row+piece)
			}
		}
		rows = append(rows, next...)
		last = next
	}
	return rows
}

var someWords = []string{"cn", "CN", "commonname", "2.5.4.3", "ou", "OU", "2.5.4.11", "seeAlso", "S", "2.5.4.34", "photo", "objectclass", "2.5.4.0", "exact", "digits", "phone", "number", "flag", "time", "bytes", "sn", "bareText", "bareDigits", "barePhone", "bareNumber", "bareFlag", "bareTime", "bareName", "N", "bareOid", "owner", "zz", "1.99"}

var someValues = []string{"", " ", "  ", "a", "A", " a", "a ", "A  b", "a b", "#", "#a", "a#", "=", "a=b", "\"", "+", ",", ";", "<", ">", "\\", "\\2c", "é", "\xc3", "\xa9", "\x00", "\x1f", "\x7f", "\x80", "\ufffd", "\xed\xa0\x80", "1", "0", "-1", "01", "1 2", "12", "1-2", "TRUE", "true", "FALSE", "20240229235959Z", "20240229235959.0+0000", "20230229000000Z", "cn", "CN", "2.5.4.3", "commonName", "person", "human", "2.5.6.6", "ou", "called", "x1", "X1", "9.9", "cn=a", "CN=A", "cn=a,ou=b", "ou=b+cn=a", "cn=a+ou=b", "zz=a", "cn=", "cn= a", "s=cn=a", "S=CN=A", "n=cn=a", "cn=\x01", "cn=\\01", "photo=\xff", "photo=\\FF"}

func someName(r *rand.Rand, words, values []string) api.Name {
	var n api.Name
	for range r.Intn(4) {
		var part api.Rdn
		for range 1 + r.Intn(3) {
			part.Avas = append(part.Avas, api.Ava{Type: words[r.Intn(len(words))], Value: values[r.Intn(len(values))]})
		}
		n.Rdns = append(n.Rdns, part)
	}
	return n
}
