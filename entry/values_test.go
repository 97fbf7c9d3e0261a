package entry_test

import (
	"slices"
	"strings"
	"testing"

	"roster/api"
	"roster/entry"
	"roster/match"
	"roster/schema"
)

// walked is what Values goes over, each value behind its Canon.
func walked(s *schema.Schema, e api.Entry, desc string) string {
	var all []string
	for canon, value := range entry.Values(s, e, desc) {
		all = append(all, canon+"="+value)
	}
	return strings.Join(all, " ")
}

// modelWalked does what P8.4 says.
func modelWalked(s *schema.Schema, e api.Entry, desc string) string {
	var all []string
	for _, attr := range e.Attrs {
		if _, _, code := s.Desc(attr.Desc); code == api.OK && s.Covers(desc, attr.Desc) {
			canon, _ := s.Canon(attr.Desc)
			for _, value := range attr.Values {
				all = append(all, canon+"="+value)
			}
		}
	}
	return strings.Join(all, " ")
}

// modelHas does what P8.4 says.
func modelHas(s *schema.Schema, e api.Entry, desc, value string) bool {
	for _, attr := range e.Attrs {
		for _, own := range attr.Values {
			if s.Covers(desc, attr.Desc) && match.Same(s, placeOf(s, attr.Desc), own, value) {
				return true
			}
		}
	}
	return false
}

// P8.4: the chapter's examples.
func TestValuesExamples(t *testing.T) {
	s := chapterSchema(t)
	e := made("cn|Ann", "objectClass|person|top")
	if got := walked(s, e, "name"); got != "cn=Ann" {
		t.Errorf("%s", got)
	}
	if !entry.Has(s, e, "cn", "  ANN ") {
		t.Error("it has")
	}
}

// untidy has attributes twice, in no order, some that are not known, values that do not fit and values twice.
var untidy = made("commonName;X|b|a|b", "zz|q", "name|z", "cn;|r", "cn|c|", "SN;y;x|d|D", "age|x|01", "cn", "Age;x|5", "2.5.4.3;x;y|e", "|f", "cn|c", "kindBelow|person", "photo|\xff")

// P8.4: all values that are covered, in the order in which they stand in the entry.
func TestValues(t *testing.T) {
	s := testSchema(t)
	for _, c := range []struct{ desc, want string }{
		{"name", "cn;x=b cn;x=a cn;x=b name=z cn=c cn= sn;x;y=d sn;x;y=D cn;x;y=e cn=c"},
		{"NAME", "cn;x=b cn;x=a cn;x=b name=z cn=c cn= sn;x;y=d sn;x;y=D cn;x;y=e cn=c"},
		{"cn", "cn;x=b cn;x=a cn;x=b cn=c cn= cn;x;y=e cn=c"},
		{"2.5.4.3", "cn;x=b cn;x=a cn;x=b cn=c cn= cn;x;y=e cn=c"},
		{"commonname;x", "cn;x=b cn;x=a cn;x=b cn;x;y=e"},
		{"name;Y;x", "sn;x;y=d sn;x;y=D cn;x;y=e"},
		{"surname", "sn;x;y=d sn;x;y=D"},
		{"age", "age=x age=01 age;x=5"},
		{"age;x", "age;x=5"},
		{"objectClass", "kindBelow=person"},
		{"photo", "photo=\xff"},
		{"count", ""},
		{"cn;z", ""},
		{"zz", ""},
		{"cn;", ""},
		{"", ""},
		{"c n", ""},
		{"name;a;b;c;d;e;f;g;h;i", ""},
		{"cn;" + strings.Repeat("x", api.MaxText), ""},
	} {
		if got := walked(s, untidy, c.desc); got != c.want {
			t.Errorf("Values(%s) are %q; want %q", brief(c.desc), got, c.want)
		}
	}
	if got := walked(s, made(), "name"); got != "" {
		t.Errorf("%q", got)
	}
}

// R9: gone over again, left early, and gone over when the entry is another one.
func TestValuesWalk(t *testing.T) {
	s := testSchema(t)
	e := made("cn|a|b", "photo|x", "name|c")
	walk := entry.Values(s, e, "name")
	e.Attrs[0].Values[0], e.Attrs[2].Desc, e.Attrs[2].Values = "spoilt", "photo", []string{"spoilt"}
	e.Attrs[1] = attrOf("cn|spoilt")
	for stop := range 5 {
		var got []string
		for canon, value := range walk {
			if len(got) == stop {
				break
			}
			got = append(got, canon+"="+value)
		}
		if want := []string{"cn=a", "cn=b", "name=c"}; !slices.Equal(got, want[:min(stop, 3)]) {
			t.Errorf("left at %d: %q", stop, got)
		}
	}
	for range walk {
		for canon, value := range walk { // once within the other
			if canon != "cn" || value != "a" {
				t.Errorf("%s, %s", canon, value)
			}
			break
		}
	}
	for _, walk := range []func(func(string, string) bool){entry.Values(s, e, "zz"), entry.Values(nil, e, "cn"), entry.Values(s, api.Entry{}, "cn")} {
		if walk == nil {
			t.Fatal("nothing to range over")
		}
		for canon, value := range walk {
			t.Errorf("%s, %s", canon, value)
		}
	}
}

// P8.4: whether one of the values is the same, for the type of its own description.
func TestHas(t *testing.T) {
	s := testSchema(t)
	for _, c := range []struct {
		desc, value string
		want        bool
	}{
		{"cn", " C ", true}, {"cn", "A", true}, {"cn", "z", false}, {"name", "Z", true}, {"cn;x", "c", false}, {"cn;x", "E", true},
		{"name", "d", true}, {"name", "D", true}, {"sn", " d", true}, {"name", "q", false},
		{"zz", "q", false}, {"cn;", "r", false}, {"", "f", false},
		{"cn", "", true}, {"sn", "", false}, // the same bytes, where there is no key
		{"age", "x", true}, {"age", "01", true}, {"age", "1", false}, {"age", "5", true}, {"age;x", "x", false},
		{"objectClass", "HUMAN", true}, {"kind", "2.5.6.6", true}, {"kindBelow", "top", false},
		{"photo", "\xff", true}, {"photo", "\xfe", false},
	} {
		if got := entry.Has(s, untidy, c.desc, c.value); got != c.want {
			t.Errorf("Has(%s, %q) = %v", c.desc, c.value, got)
		}
	}
	// name folds letters, sn below it does not.
	e := made("sn|Two", "cn|Three")
	if entry.Has(s, e, "name", "two") || !entry.Has(s, e, "name", "Two") || !entry.Has(s, e, "name", "three") || entry.Has(s, e, "name", "Four") {
		t.Error("not by the rule of the value's own type")
	}
}

// P8.4 as the chapter's words have it.
func TestValuesAsTheModel(t *testing.T) {
	s := testSchema(t)
	d := diceOf(s, 4)
	for range 5000 {
		e := d.entry()
		for _, desc := range []string{randomDescs[d.Intn(len(randomDescs))], "name", "age"} {
			if got, want := walked(s, e, desc), modelWalked(s, e, desc); got != want {
				t.Fatalf("Values(%s, %s) are %q; want %q", shown(e), desc, got, want)
			}
			value := randomValues[d.Intn(len(randomValues))]
			if got, want := entry.Has(s, e, desc, value), modelHas(s, e, desc, value); got != want {
				t.Fatalf("Has(%s, %s, %q) = %v", shown(e), desc, value, got)
			}
		}
	}
}
