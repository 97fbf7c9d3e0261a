package view_test

import (
	"slices"
	"strconv"
	"strings"
	"testing"

	"roster/api"
	"roster/view"
)

// The chapter's examples.
func TestExamples(t *testing.T) {
	s := chapterSchema(t)
	r := made("cn|Ann", "cn;x|An", "name|A")
	for _, wanted := range [][]string{nil, {}, {"*"}, {"1.1", "*"}} {
		shows(t, s, r, wanted, "cn|Ann", "cn;x|An", "name|A")
	}
	shows(t, s, r, []string{"cn"}, "cn|Ann", "cn;x|An")
	shows(t, s, r, []string{"commonName", "cn"}, "cn|Ann", "cn;x|An")
	shows(t, s, r, []string{"cn;X"}, "cn;x|An")
	shows(t, s, r, []string{"name"}, "cn|Ann", "cn;x|An", "name|A")
	shows(t, s, r, []string{"1.1"})
	shows(t, s, r, []string{"sn"})
	shows(t, s, r, []string{""})
	shows(t, s, r, []string{"1.1", "sn", ""})
	got, e := view.Show(s, r, []string{"cn"}, true)
	if e != api.OK || got.Name != "cn=Ann" || len(got.Attrs) != 2 || got.Attrs[0].Desc != "cn" || got.Attrs[1].Desc != "cn;x" || len(got.Attrs[0].Values)+len(got.Attrs[1].Values) > 0 {
		t.Errorf("with only %q is told, %v", got, e)
	}
}

// P23.1: attributes are told as they stand: their order, their descriptions, their values, those without values and those that stand twice.
func TestAsTheyStand(t *testing.T) {
	s := testSchema(t)
	all := []string{"sn;Y|b|B|a|a", "COMMONNAME;b;A;b|Ann|\xff||", "2.5.4.3", "sn;Y|c", "cn|x"}
	r := made(all...)
	shows(t, s, r, nil, all...)
	shows(t, s, r, []string{"Name"}, all...)
	shows(t, s, r, []string{"cn", "sn"}, all...)
	shows(t, s, r, []string{"sn", "cn"}, all...)
	shows(t, s, r, []string{"cn"}, all[1], all[2], all[4])
	shows(t, s, r, []string{"surname;y"}, all[0], all[3])
	shows(t, s, r, []string{"cn;a"}, all[1])
}

// P23.1: what is no description of the schema is told where all is wanted, and else never, not by itself either.
func TestUnknownAttributes(t *testing.T) {
	s := testSchema(t)
	odd := []string{"zz|1", "|2", "c n|3", "cn;|4", "*|5", "1.1|6", "person|7", "2.5.4.03|8", "cn;a;b;c;d;e;f;g;h;i|9", strings.Repeat("x", api.MaxText+1) + "|10"}
	r := made(slices.Insert(slices.Clone(odd), 3, "cn|Ann")...)
	for _, wanted := range [][]string{nil, {"*"}, {"zz", "*"}} {
		shows(t, s, r, wanted, written(r.Entry.Attrs)...)
	}
	for _, word := range append(bare(odd), "1.1", "sn") {
		if word != "*" {
			shows(t, s, r, []string{word})
			shows(t, s, r, []string{word, "cn"}, "cn|Ann")
		}
	}
}

// P23.1: there may be nothing to tell but the name.
func TestNothingToTell(t *testing.T) {
	s := testSchema(t)
	for _, wanted := range [][]string{nil, {"*"}, {"cn"}, {"1.1"}, {""}} {
		shows(t, s, made(), wanted)
	}
	shows(t, s, made("cn"), nil, "cn")
	shows(t, s, made("cn"), []string{"cn"}, "cn")
	shows(t, s, made("cn"), []string{"sn"})
}

// P23.1: the name is told by name.Print, whatever is wanted; nothing of the schema is asked of it.
func TestNameIsTold(t *testing.T) {
	s := testSchema(t)
	ava := func(word, value string) api.Ava { return api.Ava{Type: word, Value: value} }
	part := func(avas ...api.Ava) api.Rdn { return api.Rdn{Avas: avas} }
	for want, parts := range map[string][]api.Rdn{
		"":                          nil,
		"cn=":                       {part(ava("cn", ""))},
		"zz=a+CN=b,2.5.4.3=x\\,y":   {part(ava("zz", "a"), ava("CN", "b")), part(ava("2.5.4.3", "x,y"))},
		"cn=\\ #a=b\\ ,sn=\\0a\\ff": {part(ava("cn", " #a=b ")), part(ava("sn", "\n\xff"))},
	} {
		r := api.Record{Name: api.Name{Rdns: parts}, Entry: made("cn|a").Entry}
		for _, wanted := range [][]string{nil, {"cn"}, {"1.1"}} {
			for _, only := range []bool{false, true} {
				got, e := view.Show(s, r, wanted, only)
				if e != api.OK || got.Name != want {
					t.Errorf("the name %q is told, %v, not %q", got.Name, e, want)
				}
			}
		}
	}
}

// P23.1: without a schema nothing is told, and nothing of what has a name that may not be written; nil comes first.
func TestRefused(t *testing.T) {
	s := testSchema(t)
	good := api.Rdn{Avas: []api.Ava{{Type: "cn", Value: "a"}}}
	long := api.Rdn{Avas: []api.Ava{{Type: "cn", Value: strings.Repeat("a", api.MaxText-2)}}}
	for want, names := range map[api.Errno][][]api.Rdn{
		api.ErrName: {{{}}, {good, {}}, {{Avas: []api.Ava{{Type: "c n"}}}}, {{Avas: []api.Ava{{Value: "a"}}}}},
		api.ErrLong: {slices.Repeat([]api.Rdn{good}, api.MaxRdns+1), {{Avas: slices.Repeat(good.Avas, api.MaxAvas+1)}}, {long}, make([]api.Rdn, api.MaxRdns+1)},
	} {
		for _, parts := range names {
			r := api.Record{Name: api.Name{Rdns: parts}, Entry: made("cn|a").Entry}
			for _, wanted := range [][]string{nil, {"*"}, {"cn"}, {"1.1"}} {
				refuses(t, s, r, wanted, want)
				refuses(t, nil, r, wanted, api.ErrNil)
			}
		}
	}
	for _, wanted := range [][]string{nil, {"*"}, {"cn"}, {"1.1"}} {
		refuses(t, nil, made("cn|a"), wanted, api.ErrNil)
		refuses(t, nil, api.Record{}, wanted, api.ErrNil)
	}
	long.Avas[0].Value = long.Avas[0].Value[1:]
	got, e := view.Show(s, api.Record{Name: api.Name{Rdns: []api.Rdn{long}}}, nil, false)
	if e != api.OK || len(got.Name) != api.MaxText {
		t.Errorf("a name of %d bytes is told, %v", len(got.Name), e)
	}
}

// P23.1 of as many attributes and values as an entry may have, and of more, with as many words as a request may have.
func TestMany(t *testing.T) {
	s := testSchema(t)
	var all, few []string
	for at := range api.MaxAttrs {
		all = append(all, "cn;o-"+strconv.Itoa(at)+"|"+strconv.Itoa(at))
	}
	few = append(few, all[7], all[900])
	r := made(all...)
	words := slices.Concat(slices.Repeat([]string{"CN;o-7", "zz", "1.1"}, 1<<15), []string{"2.5.4.3;O-900"})
	shows(t, s, r, words, few...)
	shows(t, s, r, append(words, "*"), all...)
	shows(t, s, r, append(words, "name"), all...)
	shows(t, s, made("cn|"+strings.Repeat("a", api.MaxText+1)), words[:2])
	value := "cn;o-7|" + strings.Repeat("a|", api.MaxValues) + strings.Repeat("a", api.MaxText+1)
	shows(t, s, made(value), words, value)
}
