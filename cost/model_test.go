package cost_test

import (
	"fmt"
	"math"
	"math/rand"
	"slices"
	"strings"
	"testing"

	"roster/api"
	"roster/cost"
	"roster/filter"
	"roster/gram"
	"roster/match"
	"roster/prep"
	"roster/schema"
)

// The places of plainSchema's types.
const (
	tClass = iota
	tName
	tCn
	tSn
	tAge
	tYears
	tTally
	tPhoto
	tBlob
	tFlag
	tMoment
	tPhone
	tDigits
	tSeeAlso
	tBare
	tMixed
	tKind
	types
)

const allBits = api.IxHave | api.IxEqual | api.IxOrder | api.IxPart

// plainSchema has types of all syntaxes, with rules of all kinds and without any, with all bits, some and none; sn has other rules than name, below which it lies; mixed makes other keys for equality than for order and pieces.
func plainSchema() api.Schema {
	return api.Schema{
		Types: []api.Type{
			tClass:   {Oid: "2.5.4.0", Names: []string{"objectClass"}, Syntax: api.SynOid, Equal: api.RuleOid, Index: api.IxHave | api.IxEqual},
			tName:    {Oid: "2.5.4.41", Names: []string{"name"}, Equal: api.RuleFold, Order: api.RuleFoldOrder, Part: api.RuleFoldPart},
			tCn:      {Oid: "2.5.4.3", Names: []string{"cn", "commonName"}, Sup: "name", Index: api.IxEqual | api.IxPart},
			tSn:      {Oid: "2.5.4.4", Names: []string{"sn", "surname"}, Sup: "name", Equal: api.RuleExact, Order: api.RuleExactOrder, Part: api.RuleExactPart, Index: allBits},
			tAge:     {Oid: "1.1", Names: []string{"age"}, Syntax: api.SynNumber, Equal: api.RuleNumber, Order: api.RuleNumberOrder, Index: api.IxHave | api.IxEqual | api.IxOrder},
			tYears:   {Oid: "1.2", Names: []string{"years"}, Sup: "age", Syntax: api.SynNumber, Index: api.IxOrder},
			tTally:   {Oid: "1.3", Names: []string{"tally"}, Syntax: api.SynNumber, Index: api.IxHave},
			tPhoto:   {Oid: "1.4", Names: []string{"photo"}, Syntax: api.SynBytes},
			tBlob:    {Oid: "1.5", Names: []string{"blob"}, Syntax: api.SynBytes, Equal: api.RuleBytes, Order: api.RuleBytesOrder, Index: api.IxHave | api.IxEqual | api.IxOrder},
			tFlag:    {Oid: "1.6", Names: []string{"flag"}, Syntax: api.SynFlag, Equal: api.RuleFlag, Index: api.IxEqual},
			tMoment:  {Oid: "1.7", Names: []string{"moment"}, Syntax: api.SynTime, Equal: api.RuleTime, Order: api.RuleTimeOrder, Index: api.IxEqual | api.IxOrder},
			tPhone:   {Oid: "1.8", Names: []string{"phone"}, Syntax: api.SynPhone, Equal: api.RulePhone, Part: api.RulePhonePart, Index: api.IxEqual | api.IxPart},
			tDigits:  {Oid: "1.9", Names: []string{"digits"}, Syntax: api.SynDigits, Equal: api.RuleDigits, Order: api.RuleDigitsOrder, Part: api.RuleDigitsPart, Index: allBits},
			tSeeAlso: {Oid: "1.10", Names: []string{"seeAlso"}, Syntax: api.SynName, Equal: api.RuleName, Index: api.IxEqual},
			tBare:    {Oid: "1.11", Names: []string{"bare"}, Index: api.IxHave},
			tMixed:   {Oid: "1.12", Names: []string{"mixed"}, Equal: api.RuleExact, Order: api.RuleFoldOrder, Part: api.RuleFoldPart, Index: allBits},
			tKind:    {Oid: "1.13", Names: []string{"kind"}, Syntax: api.SynOid},
		},
		Classes: []api.Class{{Oid: "2.5.6.6", Names: []string{"person", "human"}, Kind: api.ClStructural}},
	}
}

func schemaOf(t testing.TB, plain api.Schema) *schema.Schema {
	t.Helper()
	s, e, at := schema.New(plain)
	if e != api.OK {
		t.Fatalf("the schema is refused: %v at %d", e, at)
	}
	return s
}

func testSchema(t testing.TB) *schema.Schema {
	t.Helper()
	return schemaOf(t, plainSchema())
}

// Filters.

func item(kind int8, desc, value string) api.Filter {
	return api.Filter{Kind: kind, Desc: desc, Value: value}
}

func equal(desc, value string) api.Filter { return item(api.FEqual, desc, value) }

func have(desc string) api.Filter { return item(api.FHave, desc, "") }

// pieces has a start, middles and an end, parted by *.
func pieces(desc, text string) api.Filter {
	all := strings.Split(text, "*")
	return api.Filter{Kind: api.FPart, Desc: desc, Start: all[0], Middles: all[1 : len(all)-1], End: all[len(all)-1]}
}

func ruled(desc, rule, value string) api.Filter {
	return api.Filter{Kind: api.FRule, Desc: desc, Rule: rule, Value: value}
}

func ruledDn(desc, rule, value string) api.Filter {
	return api.Filter{Kind: api.FRule, Desc: desc, Rule: rule, Value: value, Dn: true}
}

func and(kids ...api.Filter) api.Filter { return api.Filter{Kind: api.FAnd, Kids: kids} }

func or(kids ...api.Filter) api.Filter { return api.Filter{Kind: api.FOr, Kids: kids} }

func not(kid api.Filter) api.Filter { return api.Filter{Kind: api.FNot, Kids: []api.Filter{kid}} }

// nots are so many, one in the other, around f.
func nots(many int, f api.Filter) api.Filter {
	for range many {
		f = not(f)
	}
	return f
}

// voids are items that are not known, for each of the reasons that a schema can have.
func voids() []api.Filter {
	return []api.Filter{
		equal("zz", "x"), equal("photo", "x"), equal("age", "x"), equal("cn;a;b;c;d;e;f;g;h;i", "x"), equal("cn", ""), pieces("zz", "a*"), pieces("age", "3*"), pieces("digits", "*x*"), pieces("cn", "*\xff*"),
		item(api.FMore, "zz", "3"), item(api.FMore, "flag", "TRUE"), item(api.FMore, "age", "x"), item(api.FLess, "zz", "3"), item(api.FLess, "phone", "3"), item(api.FLess, "age", ""), have("zz"),
		item(api.FLike, "zz", "x"), item(api.FLike, "age", "x"), item(api.FLike, "cn", ""), item(api.FLike, "photo", "x"), item(api.FLike, "kind", "cn"),
		ruled("zz", "", "x"), ruled("zz", "caseIgnoreMatch", "x"), ruled("", "noMatch", "x"), ruled("cn", "caseIgnoreSubstringsMatch", "x"), ruled("age", "caseIgnoreMatch", "5"), ruled("photo", "", "x"), ruled("age", "", "x"), ruledDn("", "integerMatch", "x"),
	}
}

// refusedFilters may not be, with the error that filter.Check tells.
func refusedFilters() map[api.Errno][]api.Filter {
	long := strings.Repeat("x", api.MaxText+1)
	return map[api.Errno][]api.Filter{
		api.ErrFilter: {{}, or(), {Kind: api.FNot}, {Kind: api.FNot, Kids: []api.Filter{have("cn"), have("cn")}}, {Kind: -1}, {Kind: 10, Desc: "cn"}, have(""), have("c n"), item(api.FHave, "cn", "x"), pieces("cn", "*"), pieces("cn", "a**b"), ruled("", "", "x"), ruled("cn", "dn", "x"), and(have("cn"), or()), {Kind: api.FEqual, Desc: "cn", Dn: true}},
		api.ErrLong:   {equal("cn", long), have(long), pieces("cn", "*a*"+long+"*"), not(equal("cn", long)), and(equal("cn", "x"), ruled("cn", long, ""))},
		api.ErrDeep:   {nots(64, have("cn")), nots(1000, have("zz"))},
	}
}

// Plans.

var (
	none = api.Plan{How: api.PlNothing}
	all  = api.Plan{How: api.PlAll}
)

func fetch(kind int8, place int, key string, pieces ...string) api.Plan {
	return api.Plan{How: api.PlFetch, Fetch: api.Fetch{Kind: kind, Type: place, Key: key, Pieces: pieces}}
}

// keyed is the fetch of a key of cn.
func keyed(key string) api.Plan { return fetch(api.GetEqual, tCn, key) }

func test(f api.Filter, kid api.Plan) api.Plan {
	return api.Plan{How: api.PlTest, Filter: f, Kids: []api.Plan{kid}}
}

func joint(how int8, kids ...api.Plan) api.Plan { return api.Plan{How: how, Kids: kids} }

func both(kids ...api.Plan) api.Plan { return joint(api.PlAnd, kids...) }

func either(kids ...api.Plan) api.Plan { return joint(api.PlOr, kids...) }

func less(kids ...api.Plan) api.Plan { return joint(api.PlLess, kids...) }

// isSameFetch and the others: lists without anything are the same (R6).
func isSameFetch(a, b api.Fetch) bool {
	return a.Kind == b.Kind && a.Type == b.Type && a.Key == b.Key && slices.Equal(a.Pieces, b.Pieces)
}

func isSameFilter(a, b api.Filter) bool {
	return a.Kind == b.Kind && a.Desc == b.Desc && a.Value == b.Value && a.Start == b.Start && a.End == b.End && a.Rule == b.Rule && a.Dn == b.Dn &&
		slices.Equal(a.Middles, b.Middles) && slices.EqualFunc(a.Kids, b.Kids, isSameFilter)
}

func isSame(a, b api.Plan) bool {
	return a.How == b.How && isSameFetch(a.Fetch, b.Fetch) && isSameFilter(a.Filter, b.Filter) && slices.EqualFunc(a.Kids, b.Kids, isSame)
}

// brief cuts what is told where it is long.
func brief(text string) string {
	if len(text) > 600 {
		return fmt.Sprintf("%s.. (%d bytes)", text[:600], len(text))
	}
	return text
}

func shownFilter(f api.Filter) string {
	if f.Kind < api.FAnd || f.Kind > api.FNot {
		return brief(fmt.Sprintf("[%d %q %q %q*%q*%q %q %v]", f.Kind, f.Desc, f.Value, f.Start, f.Middles, f.End, f.Rule, f.Dn))
	}
	var kids []string
	for _, kid := range f.Kids[:min(len(f.Kids), 20)] {
		kids = append(kids, shownFilter(kid))
	}
	return brief([]string{"And", "Or", "Not"}[f.Kind] + "(" + strings.Join(kids, ", ") + ")")
}

func shownFetch(q api.Fetch) string {
	return brief(fmt.Sprintf("{%d %d %q %q}", q.Kind, q.Type, q.Key, q.Pieces))
}

func shown(p api.Plan) string {
	var kids []string
	for _, kid := range p.Kids[:min(len(p.Kids), 20)] {
		kids = append(kids, shown(kid))
	}
	return brief(fmt.Sprintf("%d%s %s(%s)", p.How, shownFetch(p.Fetch), shownFilter(p.Filter), strings.Join(kids, ", ")))
}

// What the chapter's words say, each asked for anew wherever it counts.

func takes(f api.Filter) bool {
	e, _, _ := filter.Check(f)
	return e == api.OK
}

// modelAsks goes by P17.1's words.
func modelAsks(s *schema.Schema, f api.Filter) (api.Fetch, bool, bool) {
	if s == nil || f.Kind == api.FAnd || f.Kind == api.FOr || f.Kind == api.FNot || !takes(f) || !filter.Known(s, f) {
		return api.Fetch{}, false, false
	}
	if f.Kind == api.FRule && f.Desc == "" {
		return api.Fetch{}, false, false
	}
	place, options, _ := s.Desc(f.Desc)
	full := s.Full(place)
	q := api.Fetch{Type: place}
	var rule int8
	switch f.Kind {
	case api.FHave:
		q.Kind = api.GetHave
		return q, len(options) == 0, true
	case api.FPart:
		q.Kind, q.Pieces = api.GetPart, modelPieces(full.Part, f)
		return q, false, true
	case api.FMore:
		q.Kind, rule = api.GetFrom, full.Order
	case api.FLess:
		q.Kind, rule = api.GetUpTo, full.Order
	case api.FEqual:
		q.Kind, rule = api.GetEqual, full.Equal
	case api.FLike:
		if full.Syntax == api.SynText {
			return api.Fetch{}, false, false
		}
		q.Kind, rule = api.GetEqual, full.Equal
	case api.FRule:
		named := full.Equal
		if f.Rule != "" {
			named = schema.Rule(f.Rule)
		}
		if f.Dn || named != full.Equal {
			return api.Fetch{}, false, false
		}
		q.Kind, rule = api.GetEqual, full.Equal
	}
	q.Key, _ = match.Key(s, rule, f.Value)
	if len(q.Key) > 524288 {
		return api.Fetch{}, false, false
	}
	return q, len(options) == 0, true
}

func modelPieces(rule int8, f api.Filter) []string {
	form, _ := schema.Form(rule)
	out := make([]string, 2+len(f.Middles))
	if f.Start != "" {
		out[0], _ = prep.Piece(form, api.AtStart, f.Start)
	}
	for i, middle := range f.Middles {
		out[i+1], _ = prep.Piece(form, api.AtMiddle, middle)
	}
	if f.End != "" {
		out[len(out)-1], _ = prep.Piece(form, api.AtEnd, f.End)
	}
	return out
}

// model makes plans by P17.2's words.
type model struct {
	s     *schema.Schema
	can   func(q api.Fetch) bool
	guess func(q api.Fetch) float64
	all   float64
}

func isItem(f api.Filter) bool { return f.Kind > api.FNot }

func (m model) plan(f api.Filter) api.Plan {
	switch f.Kind {
	case api.FAnd:
		return m.and(f)
	case api.FOr:
		return m.or(f)
	case api.FNot:
		kid := f.Kids[0]
		if isItem(kid) && m.plan(kid).How == api.PlFetch {
			return less(all, m.plan(kid))
		}
		if isItem(kid) && m.plan(kid).How == api.PlNothing {
			return none
		}
		return test(f, all)
	}
	if !filter.Known(m.s, f) {
		return none
	}
	q, exact, ok := modelAsks(m.s, f)
	switch {
	case !ok || m.can == nil || !m.can(q):
		return test(f, all)
	case exact:
		return api.Plan{How: api.PlFetch, Fetch: q}
	}
	return test(f, api.Plan{How: api.PlFetch, Fetch: q})
}

func (m model) and(f api.Filter) api.Plan {
	var plans []api.Plan
	for _, kid := range f.Kids {
		plans = append(plans, m.plan(kid))
	}
	var order []int
	for place, p := range plans {
		if p.How == api.PlNothing {
			return none
		}
		if !isDirect(p) {
			continue
		}
		at := len(order)
		for at > 0 && m.size(p) < m.size(plans[order[at-1]]) {
			at--
		}
		order = slices.Insert(order, at, place)
	}
	if len(order) == 0 {
		return test(f, all)
	}
	eightfold := 8 * m.size(plans[order[0]])
	bound := eightfold + 16
	var taken []int
	var chosen []api.Plan
	for i, place := range order {
		if i == 0 || m.size(plans[place]) <= bound {
			taken, chosen = append(taken, place), append(chosen, plans[place])
		}
	}
	p := both(chosen...)
	if len(chosen) == 1 {
		p = chosen[0]
	}
	var rest []api.Filter
	for place, kid := range f.Kids {
		if !slices.Contains(taken, place) {
			rest = append(rest, kid)
		}
	}
	switch len(rest) {
	case 0:
		return p
	case 1:
		return test(rest[0], p)
	}
	return test(and(rest...), p)
}

func (m model) or(f api.Filter) api.Plan {
	var left []api.Plan
	for _, kid := range f.Kids {
		if p := m.plan(kid); p.How != api.PlNothing {
			left = append(left, p)
		}
	}
	if len(left) == 0 {
		return none
	}
	direct, sum := true, 0.0
	for _, p := range left {
		direct = direct && isDirect(p)
		sum += m.size(p)
	}
	if !direct || sum > counts(m.all) {
		return test(f, all)
	}
	if len(left) == 1 {
		return left[0]
	}
	return either(left...)
}

// isDirect: none of its parts is PlAll.
func isDirect(p api.Plan) bool {
	for _, kid := range p.Kids {
		if !isDirect(kid) {
			return false
		}
	}
	return p.How != api.PlAll
}

func counts(guess float64) float64 {
	if guess < 0 || math.IsNaN(guess) {
		return math.Inf(1)
	}
	return guess
}

// size goes by P17.3's words, of plans that may be.
func (m model) size(p api.Plan) float64 {
	switch p.How {
	case api.PlAll:
		return counts(m.all)
	case api.PlFetch:
		if m.guess == nil {
			return 0
		}
		return counts(m.guess(p.Fetch))
	case api.PlTest, api.PlLess:
		return m.size(p.Kids[0])
	case api.PlAnd:
		least := m.size(p.Kids[0])
		for _, kid := range p.Kids {
			if m.size(kid) < least {
				least = m.size(kid)
			}
		}
		return least
	case api.PlOr:
		sum := 0.0
		for _, kid := range p.Kids {
			sum = sum + m.size(kid)
		}
		return sum
	}
	return 0
}

// modelParts are a plan's parts as they are counted; of one that holds itself nobody asks.
func modelParts(p api.Plan) []api.Plan {
	out := []api.Plan{p}
	for _, kid := range p.Kids {
		out = append(out, modelParts(kid)...)
	}
	return out
}

func modelDepth(p api.Plan) int {
	deepest := 0
	for _, kid := range p.Kids {
		deepest = max(deepest, modelDepth(kid))
	}
	return 1 + deepest
}

// modelMayBe goes by the rows of the chapter's table, and by P17.4's words of filters and fetches.
func modelMayBe(p api.Plan) bool {
	noFetch, noFilter := isSameFetch(p.Fetch, api.Fetch{}), isSameFilter(p.Filter, api.Filter{})
	switch {
	case p.How == api.PlNothing, p.How == api.PlAll:
		return len(p.Kids) == 0 && noFetch && noFilter
	case p.How == api.PlFetch:
		return len(p.Kids) == 0 && noFilter && modelFetch(p.Fetch)
	case p.How == api.PlTest:
		return len(p.Kids) == 1 && noFetch && takes(p.Filter)
	case p.How == api.PlAnd, p.How == api.PlOr:
		return len(p.Kids) > 0 && noFetch && noFilter
	case p.How == api.PlLess:
		return len(p.Kids) == 2 && noFetch && noFilter
	}
	return false
}

func modelFetch(q api.Fetch) bool {
	if q.Kind < 0 || q.Kind > 4 || q.Type < 0 || q.Type > 1023 || len(q.Key) > 524288 {
		return false
	}
	withKey := q.Kind == api.GetEqual || q.Kind == api.GetFrom || q.Kind == api.GetUpTo
	if q.Key != "" && !withKey {
		return false
	}
	if q.Kind != api.GetPart {
		return len(q.Pieces) == 0
	}
	return len(q.Pieces) >= 2 && !slices.ContainsFunc(q.Pieces, func(piece string) bool { return len(piece) > 65536 })
}

func modelCheck(p api.Plan) (api.Errno, int) {
	parts := modelParts(p)
	if len(parts) > 262144 {
		return api.ErrLong, 0
	}
	if modelDepth(p) > 128 {
		return api.ErrDeep, 0
	}
	for at, part := range parts {
		if !modelMayBe(part) {
			return api.ErrArg, at
		}
	}
	return api.OK, 0
}

// What fetches and plans tell, each record looked at.

// fetched goes by chapter 14's table.
func fetched(s *schema.Schema, q api.Fetch, r api.Record) bool {
	full := s.Full(q.Type)
	var values []string
	for _, attr := range r.Entry.Attrs {
		if place, _, e := s.Desc(attr.Desc); e == api.OK && slices.Contains(s.Below(q.Type), place) {
			values = append(values, attr.Values...)
		}
	}
	some := func(rule int8, holds func(key string) bool) bool {
		return slices.ContainsFunc(values, func(value string) bool {
			key, has := match.Key(s, rule, value)
			return has && holds(key)
		})
	}
	switch q.Kind {
	case api.GetHave:
		return len(values) > 0
	case api.GetEqual:
		return some(full.Equal, func(key string) bool { return key == q.Key })
	case api.GetFrom:
		return some(full.Order, func(key string) bool { return key >= q.Key })
	case api.GetUpTo:
		return some(full.Order, func(key string) bool { return key <= q.Key })
	}
	for _, g := range gram.Asked(q.Pieces) {
		if !some(full.Part, func(key string) bool { return slices.Contains(gram.Grams(key), g) }) {
			return false
		}
	}
	return len(values) > 0
}

// tells: whether a plan tells a record's number, tell saying it of fetches.
func tells(s *schema.Schema, p api.Plan, r api.Record, tell func(q api.Fetch, r api.Record) bool) bool {
	has := func(kid api.Plan) bool { return tells(s, kid, r, tell) }
	switch p.How {
	case api.PlAll:
		return true
	case api.PlFetch:
		return tell(p.Fetch, r)
	case api.PlTest:
		return has(p.Kids[0]) && filter.Says(s, p.Filter, r) == api.Yes
	case api.PlAnd:
		return !slices.ContainsFunc(p.Kids, func(kid api.Plan) bool { return !has(kid) })
	case api.PlOr:
		return slices.ContainsFunc(p.Kids, has)
	case api.PlLess:
		return has(p.Kids[0]) && !has(p.Kids[1])
	}
	return false
}

// Things by chance, always the same ones.

type dice struct{ *rand.Rand }

func diceOf(seed int64) dice { return dice{rand.New(rand.NewSource(seed))} }

func oneOf[T any](d dice, of ...T) T { return of[d.Intn(len(of))] }

func (d dice) desc() string {
	return oneOf(d, "cn", "cn", "CN", "commonName", "2.5.4.3", "cn;x", "cn;X;y", "name", "name;x", "sn", "sn", "surname;y", "age", "age", "1.1", "age;x", "years", "tally", "photo", "blob", "flag", "moment",
		"phone", "digits", "digits;x", "seeAlso", "bare", "mixed", "mixed;x", "objectClass", "kind", "zz", "9.9;x", "cn;a;b;c;d;e;f;g;h;i")
}

// value is mostly one that fits the description's type; many are alike.
func (d dice) value(s *schema.Schema, desc string) string {
	texts := []string{"Ann", "ann", " ANN ", "Bob", "abc", "abcx", "x abc", "a", "ab", "é", "", " ", "\xff"}
	place, _, e := s.Desc(desc)
	if e != api.OK || d.Intn(10) == 0 {
		return oneOf(d, append(texts, "5", "TRUE")...)
	}
	switch s.Full(place).Syntax {
	case api.SynNumber:
		return oneOf(d, "0", "5", "5", "-20", "100", "05", "x")
	case api.SynFlag:
		return oneOf(d, "TRUE", "FALSE", "true")
	case api.SynTime:
		return oneOf(d, "20240229235959Z", "20240229225959.0-0100", "19991231000000,5Z", "1999")
	case api.SynPhone, api.SynDigits:
		return oneOf(d, "1234", "12 34", "123 45", "+1 (2)-34", "12", "x")
	case api.SynName:
		return oneOf(d, "cn=Ann", "CN=ann", "cn=a,sn=b", "=", "zz=1")
	case api.SynOid:
		return oneOf(d, "person", "HUMAN", "2.5.6.6", "cn", "2.5.4.3", "nobody", "a b")
	}
	return oneOf(d, texts...)
}

// item may be.
func (d dice) item(s *schema.Schema) api.Filter {
	desc := d.desc()
	switch kind := oneOf[int8](d, api.FEqual, api.FEqual, api.FEqual, api.FPart, api.FMore, api.FLess, api.FHave, api.FLike, api.FRule, api.FRule); kind {
	case api.FHave:
		return have(desc)
	case api.FPart:
		text := oneOf(d, "", "a", "Ab", " abc", "12", "x")
		for range d.Intn(3) {
			text += "*" + oneOf(d, "b", "abc", "234", "bc", "N")
		}
		text += "*" + oneOf(d, "", "c", "bc", "34", "x ")
		if text == "*" {
			text = "*a*"
		}
		return pieces(desc, text)
	case api.FRule:
		f := ruled(desc, oneOf(d, "", "", "caseIgnoreMatch", "CASEEXACTMATCH", "2.5.13.5", "integerMatch", "objectIdentifierMatch", "caseIgnoreSubstringsMatch", "noMatch"), d.value(s, desc))
		f.Dn = d.Intn(3) == 0
		if f.Rule != "" && d.Intn(4) == 0 {
			f.Desc = ""
		}
		return f
	default:
		return item(kind, desc, d.value(s, desc))
	}
}

// knownItem is, in most cases, known, and asks something.
func (d dice) knownItem(s *schema.Schema) api.Filter {
	for {
		f := d.item(s)
		if _, _, ok := modelAsks(s, f); ok || d.Intn(5) == 0 {
			return f
		}
	}
}

// filter may be, and is at most so deep.
func (d dice) filter(s *schema.Schema, deep int) api.Filter {
	if deep <= 1 || d.Intn(5) == 0 {
		return d.knownItem(s)
	}
	f := api.Filter{Kind: oneOf[int8](d, api.FAnd, api.FAnd, api.FOr, api.FOr, api.FNot)}
	many := 1
	if f.Kind != api.FNot {
		many += d.Intn(4)
	}
	for range many {
		f.Kids = append(f.Kids, d.filter(s, deep-1))
	}
	return f
}

// schema has some of plainSchema's types, some of their rules, and any bits that these let.
func (d dice) schema(t testing.TB) *schema.Schema {
	plain := plainSchema()
	types := plain.Types[:1:1]
	for _, kind := range plain.Types[1:] {
		if kind.Names[0] != "name" && kind.Names[0] != "age" && d.Intn(6) == 0 {
			continue
		}
		for _, rule := range []*int8{&kind.Equal, &kind.Order, &kind.Part} {
			if d.Intn(8) == 0 {
				*rule = api.RuleNone
			}
		}
		kind.Index = 0
		types = append(types, kind)
	}
	plain.Types = types
	s := schemaOf(t, plain)
	for place := range plain.Types {
		full, bits := s.Full(place), uint8(api.IxHave)
		for bit, rule := range map[uint8]int8{api.IxEqual: full.Equal, api.IxOrder: full.Order, api.IxPart: full.Part} {
			if rule != api.RuleNone {
				bits |= bit
			}
		}
		plain.Types[place].Index = bits & uint8(d.Intn(16)|d.Intn(16))
	}
	return schemaOf(t, plain)
}

func (d dice) record(s *schema.Schema, id uint64) api.Record {
	r := api.Record{Id: id}
	for range d.Intn(7) {
		attr := api.Attr{Desc: d.desc()}
		for range d.Intn(4) {
			attr.Values = append(attr.Values, d.value(s, attr.Desc))
		}
		r.Entry.Attrs = append(r.Entry.Attrs, attr)
	}
	for range d.Intn(3) {
		word := d.desc()
		r.Name.Rdns = append(r.Name.Rdns, api.Rdn{Avas: []api.Ava{{Type: word, Value: d.value(s, word)}}})
	}
	return r
}

// number is a guess, or all.
func (d dice) number() float64 {
	if d.Intn(2) == 0 {
		return float64(d.Intn(100))
	}
	return oneOf(d, 0, 1, 2, 16, 17, 24, 40, 41, 0.5, 1e308, 5e-324, math.Copysign(0, -1), -1, math.NaN(), math.Inf(1), math.Inf(-1), 1<<53, 1<<53+2)
}

// guesses answer alike each time they are asked the same.
func (d dice) guesses() func(q api.Fetch) float64 {
	if d.Intn(8) == 0 {
		return nil
	}
	told := map[string]float64{}
	return func(q api.Fetch) float64 {
		key := shownFetch(q)
		if _, is := told[key]; !is {
			told[key] = d.number()
		}
		return told[key]
	}
}

// cans likewise.
func (d dice) cans() func(q api.Fetch) bool {
	often := d.Intn(5)
	if often == 0 && d.Intn(2) == 0 {
		return nil
	}
	told := map[string]bool{}
	return func(q api.Fetch) bool {
		key := shownFetch(q)
		if _, is := told[key]; !is {
			told[key] = d.Intn(4) < often
		}
		return told[key]
	}
}

// plan may be in most cases.
func (d dice) plan(s *schema.Schema, deep int) api.Plan {
	p := api.Plan{How: int8(d.Intn(api.PlLess + 1))}
	if deep <= 1 {
		p.How = int8(d.Intn(api.PlFetch + 1))
	}
	kids := 0
	switch p.How {
	case api.PlFetch:
		p.Fetch = d.fetch()
	case api.PlTest:
		p.Filter = d.filter(s, 3)
		kids = 1
	case api.PlAnd, api.PlOr:
		kids = 1 + d.Intn(4)
	case api.PlLess:
		kids = 2
	}
	for range kids {
		p.Kids = append(p.Kids, d.plan(s, deep-1))
	}
	return p
}

func (d dice) fetch() api.Fetch {
	q := api.Fetch{Kind: int8(d.Intn(5)), Type: d.Intn(api.MaxTypes)}
	switch q.Kind {
	case api.GetEqual, api.GetFrom, api.GetUpTo:
		q.Key = oneOf(d, "", "a", "ann", "\xff")
	case api.GetPart:
		for range 2 + d.Intn(3) {
			q.Pieces = append(q.Pieces, oneOf(d, "", "a", "abc"))
		}
	}
	return q
}

// spoilt has something else at some part.
func (d dice) spoilt(s *schema.Schema, p api.Plan) api.Plan {
	if len(p.Kids) > 0 && d.Intn(3) > 0 {
		p.Kids = slices.Clone(p.Kids)
		at := d.Intn(len(p.Kids))
		p.Kids[at] = d.spoilt(s, p.Kids[at])
		return p
	}
	switch d.Intn(8) {
	case 0:
		p.How = int8(d.Intn(256) - 128)
	case 1:
		p.How = int8(d.Intn(api.PlLess + 1))
	case 2:
		p.Fetch = oneOf(d, api.Fetch{Kind: 1}, api.Fetch{Type: 1}, api.Fetch{Key: "a"}, api.Fetch{Pieces: []string{""}}, api.Fetch{Kind: 5}, api.Fetch{Kind: -1}, api.Fetch{Type: -1}, api.Fetch{Type: 1024}, api.Fetch{Type: 1023})
	case 3:
		p.Fetch.Pieces = slices.Repeat([]string{"a"}, d.Intn(3))
	case 4:
		p.Fetch.Key = oneOf(d, "", "a")
	case 5:
		p.Filter = oneOf(d, api.Filter{}, have("cn"), not(have("cn")), and(), api.Filter{Dn: true}, api.Filter{Middles: []string{""}}, api.Filter{Value: "a"}, api.Filter{Kind: 99}, nots(64, have("cn")), have("c n"))
	case 6:
		p.Kids = slices.Repeat([]api.Plan{all}, d.Intn(4))
	case 7:
		p.Kids = append(slices.Clone(p.Kids), d.plan(s, 2))
	}
	return p
}

func checkPlan(t testing.TB, m model, f api.Filter, want api.Plan) {
	t.Helper()
	got, e := cost.Plan(m.s, f, m.can, m.guess, m.all)
	if e != api.OK || !isSame(got, want) {
		t.Errorf("Plan(%s) of %v is %s, %v; want %s", shownFilter(f), m.all, shown(got), e, shown(want))
	}
}

func checkSize(t testing.TB, m model, p api.Plan, want float64) {
	t.Helper()
	if got := cost.Size(p, m.guess, m.all); got != want {
		t.Errorf("Size(%s) of %v is %v; want %v", shown(p), m.all, got, want)
	}
}

func checkCheck(t testing.TB, p api.Plan, want api.Errno, place int) {
	t.Helper()
	if e, at := cost.Check(p); e != want || at != place {
		t.Errorf("Check(%s) is %v, %d; want %v, %d", shown(p), e, at, want, place)
	}
}
