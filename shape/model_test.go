package shape_test

import (
	"fmt"
	"math/rand"
	"slices"
	"strings"
	"testing"

	"roster/api"
	"roster/filter"
	"roster/schema"
)

func plainSchema() api.Schema {
	return api.Schema{Types: []api.Type{
		{Oid: "2.5.4.0", Names: []string{"objectClass"}, Syntax: api.SynOid, Equal: api.RuleOid},
		{Oid: "2.5.4.41", Names: []string{"name"}, Equal: api.RuleFold, Order: api.RuleFoldOrder, Part: api.RuleFoldPart},
		{Oid: "2.5.4.3", Names: []string{"cn", "commonName"}, Sup: "name"},
		{Oid: "2.5.4.4", Names: []string{"sn"}, Sup: "name", Equal: api.RuleExact},
		{Oid: "1.1", Names: []string{"age"}, Syntax: api.SynNumber, Equal: api.RuleNumber, Order: api.RuleNumberOrder},
		{Oid: "1.2", Names: []string{"born"}, Syntax: api.SynTime, Equal: api.RuleTime, Order: api.RuleTimeOrder},
		{Oid: "1.3", Names: []string{"photo"}, Syntax: api.SynBytes},
	}}
}

func schemaOf(t testing.TB, plain api.Schema) *schema.Schema {
	t.Helper()
	s, e, at := schema.New(plain)
	if e != api.OK {
		t.Fatalf("the schema is refused: %v at %d", e, at)
	}
	return s
}

func testSchema(t testing.TB) *schema.Schema {
	t.Helper()
	return schemaOf(t, plainSchema())
}

func item(kind int8, desc, value string) api.Filter {
	return api.Filter{Kind: kind, Desc: desc, Value: value}
}

func equal(desc, value string) api.Filter { return item(api.FEqual, desc, value) }

func have(desc string) api.Filter { return item(api.FHave, desc, "") }

func part(desc, start, end string, middles ...string) api.Filter {
	return api.Filter{Kind: api.FPart, Desc: desc, Start: start, Middles: middles, End: end}
}

func ruled(desc, rule, value string, dn bool) api.Filter {
	return api.Filter{Kind: api.FRule, Desc: desc, Rule: rule, Value: value, Dn: dn}
}

func and(kids ...api.Filter) api.Filter { return api.Filter{Kind: api.FAnd, Kids: kids} }

func or(kids ...api.Filter) api.Filter { return api.Filter{Kind: api.FOr, Kids: kids} }

func not(kid api.Filter) api.Filter { return api.Filter{Kind: api.FNot, Kids: []api.Filter{kid}} }

// nots are so many, one in the other, around f.
func nots(many int, f api.Filter) api.Filter {
	for range many {
		f = not(f)
	}
	return f
}

func notAll(kids []api.Filter) []api.Filter {
	var out []api.Filter
	for _, kid := range kids {
		out = append(out, not(kid))
	}
	return out
}

// Items that are known under testSchema, rising by Cmp, and one that is not.
var (
	a = equal("age", "5")
	b = equal("cn", "x")
	c = have("cn")
	u = have("zz")
)

// oneOfEach are known items of all kinds, rising by Cmp.
func oneOfEach() []api.Filter {
	return []api.Filter{equal("cn", "x"), part("cn", "a", "d", "b", "c"), item(api.FMore, "age", "3"), item(api.FLess, "age", "3"), have("cn"), item(api.FLike, "cn", "x"), ruled("", "caseIgnoreMatch", "x", true), ruled("cn", "", "x", false)}
}

// voidOfEach are items of all kinds that are not known, for each of the reasons that the schema can have.
func voidOfEach() []api.Filter {
	return []api.Filter{
		equal("zz", "x"), equal("photo", "x"), equal("age", "x"), part("zz", "a", ""), part("age", "3", ""), part("cn", "", "", "\xff"), item(api.FMore, "zz", "3"), item(api.FMore, "photo", "3"), item(api.FMore, "age", "x"),
		item(api.FLess, "zz", "3"), item(api.FLess, "age", "x"), have("zz"), have("cn;a;b;c;d;e;f;g;h;i"), item(api.FLike, "zz", "x"), item(api.FLike, "age", "x"), ruled("zz", "", "x", false), ruled("", "noMatch", "x", true), ruled("age", "caseIgnoreMatch", "5", false), ruled("photo", "", "x", false),
	}
}

func shown(f api.Filter) string {
	text := shownWhole(f)
	if len(text) > 600 {
		return fmt.Sprintf("%s.. (%d bytes)", text[:600], len(text))
	}
	return text
}

func shownWhole(f api.Filter) string {
	if f.Kind < api.FAnd || f.Kind > api.FNot || len(f.Kids) == 0 {
		return fmt.Sprintf("[%d %q %q %q*%q*%q %q %v]", f.Kind, f.Desc, f.Value, f.Start, f.Middles, f.End, f.Rule, f.Dn)
	}
	var kids []string
	for _, kid := range f.Kids[:min(len(f.Kids), 20)] {
		kids = append(kids, shown(kid))
	}
	return []string{"And", "Or", "Not"}[f.Kind] + "(" + strings.Join(kids, ", ") + ")"
}

// isSame holds two filters against one another, field by field; lists without anything are the same (R6).
func isSame(a, b api.Filter) bool {
	return a.Kind == b.Kind && a.Desc == b.Desc && a.Value == b.Value && a.Start == b.Start && a.End == b.End && a.Rule == b.Rule && a.Dn == b.Dn &&
		slices.Equal(a.Middles, b.Middles) && slices.EqualFunc(a.Kids, b.Kids, isSame)
}

// modelNormal is the normal form of a filter that may be, as the chapter's words say it.
func modelNormal(f api.Filter) api.Filter {
	switch f.Kind {
	case api.FNot:
		return modelNot(f)
	case api.FAnd, api.FOr:
		return modelJoint(f)
	}
	return f
}

func modelNot(f api.Filter) api.Filter {
	x := f.Kids[0]
	switch x.Kind {
	case api.FNot:
		return modelNormal(x.Kids[0])
	case api.FAnd:
		return modelNormal(or(notAll(x.Kids)...))
	case api.FOr:
		return modelNormal(and(notAll(x.Kids)...))
	}
	return f
}

func modelJoint(f api.Filter) api.Filter {
	var spread, once []api.Filter
	for _, kid := range f.Kids {
		if n := modelNormal(kid); n.Kind == f.Kind {
			spread = append(spread, n.Kids...)
		} else {
			spread = append(spread, n)
		}
	}
	for _, kid := range spread {
		at := 0
		for at < len(once) && filter.Cmp(once[at], kid) < 0 {
			at++
		}
		if at == len(once) || filter.Cmp(once[at], kid) != 0 {
			once = slices.Insert(once, at, kid)
		}
	}
	if len(once) == 1 {
		return once[0]
	}
	return api.Filter{Kind: f.Kind, Kids: once}
}

// modelLeft is what is left of a filter; false, if that is nothing.
func modelLeft(s *schema.Schema, f api.Filter) (api.Filter, bool) {
	switch f.Kind {
	case api.FAnd, api.FOr:
		var kids []api.Filter
		for _, kid := range f.Kids {
			if rest, some := modelLeft(s, kid); some {
				kids = append(kids, rest)
			}
		}
		if len(kids) == 0 || f.Kind == api.FAnd && len(kids) < len(f.Kids) {
			return api.Filter{}, false
		}
		return api.Filter{Kind: f.Kind, Kids: kids}, true
	case api.FNot:
		return f, filter.Known(s, f.Kids[0])
	}
	return f, filter.Known(s, f)
}

func modelBare(s *schema.Schema, f api.Filter) (api.Filter, bool) {
	rest, some := modelLeft(s, modelNormal(f))
	if !some {
		return api.Filter{}, false
	}
	return modelNormal(rest), true
}

// dice make filters, schemas and records by chance, always the same ones.
type dice struct{ *rand.Rand }

func diceOf(seed int64) dice { return dice{rand.New(rand.NewSource(seed))} }

func (d dice) of(texts ...string) string { return texts[d.Intn(len(texts))] }

func (d dice) desc() string {
	return d.of("cn", "CN", "commonName", "cn;x", "name", "name;x", "sn", "sn;y", "age", "1.1", "born", "photo", "objectClass", "zz", "9.9", "cn;a;b;c;d;e;f;g;h;i")
}

func (d dice) value() string {
	return d.of("x", "X", "y", "xy", "", "5", "6", "-1", "20240229235959Z", "20250101000000Z", "cn", "2.5.4.3", "\xff")
}

// item may be; few enough of them are unlike that many are met again.
func (d dice) item() api.Filter {
	switch kind := int8(api.FEqual + d.Intn(api.FRule-api.FEqual+1)); kind {
	case api.FPart:
		f := part(d.desc(), d.of("", "x", "X"), d.of("", "y"))
		for range d.Intn(3) {
			f.Middles = append(f.Middles, d.of("x", "y", "5"))
		}
		if f.Start == "" && f.End == "" && len(f.Middles) == 0 {
			f.Middles = []string{"x"}
		}
		return f
	case api.FRule:
		f := ruled(d.desc(), d.of("", "caseIgnoreMatch", "2.5.13.5", "integerMatch", "noMatch"), d.value(), d.Intn(2) == 0)
		if f.Rule != "" && d.Intn(2) == 0 {
			f.Desc = ""
		}
		return f
	case api.FHave:
		return have(d.desc())
	default:
		return item(kind, d.desc(), d.value())
	}
}

// items are some few of which filters are made: so parts that are the same are common.
func (d dice) items() []api.Filter {
	var out []api.Filter
	for range 1 + d.Intn(6) {
		out = append(out, d.item())
	}
	return out
}

// filter of these items is at most so deep.
func (d dice) filter(items []api.Filter, deep int) api.Filter {
	if deep <= 1 || d.Intn(6) == 0 {
		return items[d.Intn(len(items))]
	}
	f := api.Filter{Kind: int8(d.Intn(api.FNot + 1))}
	many := 1
	if f.Kind != api.FNot {
		many += d.Intn(4)
	}
	for range many {
		f.Kids = append(f.Kids, d.filter(items, deep-1))
	}
	return f
}

// spoilt has something that may not be at some part.
func (d dice) spoilt(f api.Filter) api.Filter {
	if len(f.Kids) > 0 && d.Intn(3) > 0 {
		f.Kids = slices.Clone(f.Kids)
		at := d.Intn(len(f.Kids))
		f.Kids[at] = d.spoilt(f.Kids[at])
		return f
	}
	wrong := []api.Filter{{}, and(), or(), {Kind: api.FNot}, {Kind: api.FNot, Kids: []api.Filter{a, b}}, have(""), have("c n"), {Kind: -1}, {Kind: 10, Desc: "cn"}, part("cn", "", ""), part("cn", "", "", ""), ruled("", "", "x", false), ruled("cn", "dN", "x", true), nots(64, a), equal("cn", strings.Repeat("x", api.MaxText+1))}
	return wrong[d.Intn(len(wrong))]
}

// schema has some of plainSchema's types, and some of their rules.
func (d dice) schema(t testing.TB) *schema.Schema {
	plain := plainSchema()
	types := plain.Types[:1:1]
	named := false
	for _, kind := range plain.Types[1:] {
		if d.Intn(4) == 0 {
			continue
		}
		if kind.Sup != "" && !named {
			kind.Sup = ""
		}
		named = named || kind.Names[0] == "name"
		for _, rule := range []*int8{&kind.Equal, &kind.Order, &kind.Part} {
			if d.Intn(4) == 0 {
				*rule = api.RuleNone
			}
		}
		types = append(types, kind)
	}
	return schemaOf(t, api.Schema{Types: types})
}

func (d dice) record() api.Record {
	r := api.Record{Id: d.Uint64()}
	for range d.Intn(6) {
		attr := api.Attr{Desc: d.desc()}
		for range d.Intn(4) {
			attr.Values = append(attr.Values, d.value())
		}
		r.Entry.Attrs = append(r.Entry.Attrs, attr)
	}
	for range d.Intn(3) {
		r.Name.Rdns = append(r.Name.Rdns, api.Rdn{Avas: []api.Ava{{Type: d.desc(), Value: d.value()}}})
	}
	return r
}
