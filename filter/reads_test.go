package filter_test

import (
	"strings"
	"testing"

	"roster/api"
	"roster/filter"
)

func TestKnown(t *testing.T) {
	s := testSchema(t)
	what := saysWhat()
	yes, unknown := what[api.Yes], what[api.Unknown]
	for _, x := range []struct {
		f    api.Filter
		want bool
	}{
		{equal("cn", "x"), true}, {equal("cn", ""), false}, {equal("bare", "x"), false}, {equal("zz", "x"), false}, {equal("cn;q", "x"), true}, {equal("cn;a;b;c;d;e;f;g;h;i", "x"), false},
		{item(api.FMore, "age", "1"), true}, {item(api.FMore, "age", "x"), false}, {item(api.FMore, "cn", "x"), false}, {item(api.FLess, "age", "1"), true}, {item(api.FLess, "tally", "1"), false},
		{have("photo"), true}, {have("zz"), false}, {pieces("cn", "a*"), true}, {pieces("ou", "a*"), false}, {pieces("digits", "1*x*2"), false}, {pieces("digits", "1*3*2"), true}, {item(api.FLike, "bare", "x"), true}, {item(api.FLike, "tally", "1"), false}, {item(api.FLike, "cn", ""), false},
		{rule("", "caseIgnoreMatch", "x"), true}, {rule("", "caseIgnoreMatch", ""), false}, {rule("", "noMatch", "x"), false}, {rule("cn", "", "x"), true}, {rule("cn", "integerMatch", "1"), false}, {rule("zz", "caseIgnoreMatch", "x"), false}, {ruleDn("zz", "", "x"), false}, {rule("bare", "", "x"), false}, {rule("bare", "caseExactMatch", "x"), true},
		// All items, wherever they stand.
		{and(yes, not(yes)), true}, {and(yes, unknown), false}, {or(unknown, yes), false}, {or(yes, not(and(yes, not(unknown)))), false}, {not(unknown), false}, {nots(63, yes), true}, {nots(63, unknown), false}, {or(yes, or(yes, and(yes))), true},
	} {
		if got := filter.Known(s, x.f); got != x.want {
			t.Errorf("Known(%s) is %v", shown(x.f), got)
		}
	}
}

func TestKnownRandom(t *testing.T) {
	d := diceOf(t, 5)
	var known int
	for range 30000 {
		f := d.filter(1 + d.Intn(4))
		want := modelKnown(d.s, f)
		if got := filter.Known(d.s, f); got != want {
			t.Fatalf("Known(%s) is %v", shown(f), got)
		}
		if want {
			known++
		}
	}
	if known < 5000 || known > 25000 {
		t.Errorf("%d of the filters are known", known)
	}
}

func checkReads(t *testing.T, f api.Filter, desc string, want bool) {
	t.Helper()
	if got := filter.Reads(testSchema(t), f, desc); got != want {
		t.Errorf("Reads(%s, %s) is %v", shown(f), desc, got)
	}
}

// The chapter's examples.
func TestReadsExamples(t *testing.T) {
	checkReads(t, equal("name", "1"), "cn;x", true)
	checkReads(t, equal("cn;x", "1"), "cn", false)
	checkReads(t, rule("", "caseIgnoreMatch", "1"), "cn", true)
}

func TestReads(t *testing.T) {
	for _, f := range []api.Filter{equal("name;X", ""), item(api.FMore, "name;x", "a"), item(api.FLess, "2.5.4.41;x", "a"), have("Name;x"), pieces("name;x", "a*"), item(api.FLike, "name;x", "a"), rule("name;x", "", "a"), rule("name;x", "integerMatch", "1"), ruleDn("name;x", "noMatch", "")} {
		// Whether it is known does not count, nor where it stands.
		for _, around := range []api.Filter{f, not(f), and(have("age"), not(or(equal("zz", "a"), f)))} {
			for desc, want := range map[string]bool{"name;x": true, "NAME;X;y": true, "cn;x": true, "2.5.4.4;z;x": true, "name": false, "cn;y": false, "ou;x": false, "zz;x": false, "cn;x;": false, "": false, "cn x": false, "cn;x;a;b;c;d;e;f;g;h": false} {
				checkReads(t, around, desc, want)
			}
		}
	}
	checkReads(t, equal("zz", "a"), "zz", false)
	checkReads(t, equal("cn", "a"), "name", false)
	checkReads(t, equal("cn", "a"), "sn", false)
	checkReads(t, and(equal("cn", "a"), have("age")), "years;q", true)
	checkReads(t, and(equal("cn", "a"), have("age")), "tally", false)
	// Without a Desc: by the syntax of a rule for equality, whatever the value and the options.
	for _, f := range []api.Filter{rule("", "caseIgnoreMatch", "a"), rule("", "caseExactMatch", ""), ruleDn("", "2.5.13.5", "\xff")} {
		for desc, want := range map[string]bool{"cn": true, "name;x": true, "bare": true, "ou": true, "age": false, "photo": false, "objectClass": false, "zz": false, "": false, "cn;": false} {
			checkReads(t, f, desc, want)
		}
	}
	for _, name := range []string{"caseIgnoreOrderingMatch", "caseIgnoreSubstringsMatch", "2.5.13.6", "noMatch", "1.2"} {
		checkReads(t, rule("", name, "a"), "cn", false)
		checkReads(t, rule("cn", name, "a"), "cn", true)
	}
	checkReads(t, rule("", "integerMatch", "1"), "tally", true)
	checkReads(t, rule("", "integerMatch", "1"), "digits", false)
	// With a Desc the rule does not count.
	checkReads(t, rule("age", "caseIgnoreMatch", "a"), "cn", false)
	checkReads(t, rule("cn", "caseIgnoreMatch", "a"), "ou", false)
	checkReads(t, have("cn"), strings.Repeat("a", api.MaxText+1), false)
	checkReads(t, have("cn"), "cn;"+strings.Repeat("a", api.MaxText), false)
}

func TestReadsRandom(t *testing.T) {
	d := diceOf(t, 6)
	var reads int
	for range 30000 {
		f, desc := d.filter(1+d.Intn(3)), d.of(randomDescs)
		if d.Intn(20) == 0 {
			desc = d.of(wrongDescs)
		}
		want := modelReads(d.s, f, desc)
		if got := filter.Reads(d.s, f, desc); got != want {
			t.Fatalf("Reads(%s, %s) is %v", shown(f), desc, got)
		}
		if want {
			reads++
		}
	}
	if reads < 2000 || reads > 28000 {
		t.Errorf("%d of the filters read it", reads)
	}
}
