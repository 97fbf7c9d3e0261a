package entry_test

import (
	"testing"

	"roster/api"
	"roster/entry"
)

// P8.5: no schema, and no tidiness, is asked for.
func TestSame(t *testing.T) {
	different := []api.Entry{
		made(), made(""), made("|"), made("||"), made("", ""), made("cn"), made("cn|a"), made("CN|a"), made("cn|A"), made("cn|a|b"), made("cn|b|a"), made("cn|a|a"),
		made("cn|a", "cn|b"), made("cn|b", "cn|a"), made("cn|a", "sn|b"), made("sn|b", "cn|a"), made("cn|a", "sn"), made("commonName|a"), made("2.5.4.3|a"), made("cn|a "),
		made("cn|\xff"), made("cn|\xfe"), made("cn|a", "sn|b", "cn|a"), made("cn|ab"), made("cna|b"),
	}
	for i, a := range different {
		for j, b := range different {
			if got := entry.Same(a, b); got != (i == j) {
				t.Errorf("Same(%s, %s) = %v", shown(a), shown(b), got)
			}
		}
		if !entry.Same(a, entry.Twin(a)) || !entry.Same(entry.Twin(a), a) || !isSame(a, entry.Twin(a)) {
			t.Errorf("%s is not its own twin", shown(a))
		}
	}
}

// R6: lists without anything.
func TestSameOfEmptyLists(t *testing.T) {
	without := api.Entry{Attrs: []api.Attr{{Desc: "cn"}}}
	empty := api.Entry{Attrs: []api.Attr{{Desc: "cn", Values: []string{}}}}
	if !entry.Same(without, empty) || !entry.Same(empty, without) || !entry.Same(api.Entry{}, api.Entry{Attrs: []api.Attr{}}) || !entry.Same(api.Entry{Attrs: []api.Attr{}}, api.Entry{}) {
		t.Error("an empty list and none are the same")
	}
	if got := entry.Twin(api.Entry{}); len(got.Attrs) != 0 {
		t.Errorf("%s", shown(got))
	}
	if got := entry.Twin(without); !entry.Same(got, empty) {
		t.Errorf("%s", shown(got))
	}
}

// P8.5: a twin is new memory throughout.
func TestTwinIsNew(t *testing.T) {
	e := made("cn|a|b", "sn|c")
	twin := entry.Twin(e)
	spoil(twin)
	if !isSame(e, made("cn|a|b", "sn|c")) {
		t.Errorf("the entry became %s", shown(e))
	}
	twin = entry.Twin(e)
	spoil(e)
	if !isSame(twin, made("cn|a|b", "sn|c")) {
		t.Errorf("the twin became %s", shown(twin))
	}
}
