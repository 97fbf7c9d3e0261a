package name_test

import (
	"math/rand"
	"slices"
	"testing"

	"roster/api"
	"roster/name"
)

func TestAboveExamples(t *testing.T) {
	if up, ok := name.Above(mustParse(t, "cn=a,ou=b")); !same(up, named(pairs("ou", "b"))) || !ok {
		t.Errorf("%q, %v", up, ok)
	}
	for _, none := range []api.Name{{}, {Rdns: []api.Rdn{}}} {
		if up, ok := name.Above(none); len(up.Rdns) != 0 || ok {
			t.Errorf("%q, %v", up, ok)
		}
	}
}

func TestAboveOfAnyNames(t *testing.T) {
	if up, ok := name.Above(named(pairs("cn", "a"))); len(up.Rdns) != 0 || !ok {
		t.Errorf("%q, %v", up, ok)
	}
	if up, ok := name.Above(named(pairs(), pairs(), pairs("", "\xff"))); !same(up, named(pairs(), pairs("", "\xff"))) || !ok {
		t.Errorf("%q, %v", up, ok)
	}
	many := api.Name{Rdns: slices.Repeat([]api.Rdn{rdn("c n", "a", "c n", "b")}, 1000)}
	if up, ok := name.Above(many); len(up.Rdns) != 999 || !ok || len(up.Rdns[998].Avas) != 2 {
		t.Errorf("%d parts, %v", len(up.Rdns), ok)
	}
}

func TestUnderOfAnyNames(t *testing.T) {
	for _, c := range []struct {
		r       api.Rdn
		n, want api.Name
	}{
		{rdn("cn", "a"), api.Name{}, named(pairs("cn", "a"))},
		{rdn("cn", "a"), named(pairs("ou", "b")), named(pairs("cn", "a"), pairs("ou", "b"))},
		{rdn("cn", "a", "sn", "x"), named(pairs("ou", "b", "cn", "d"), pairs("ou", "c")), named(pairs("cn", "a", "sn", "x"), pairs("ou", "b", "cn", "d"), pairs("ou", "c"))},
		{api.Rdn{}, api.Name{}, named(pairs())},
		{api.Rdn{}, named(pairs(), pairs("", "")), named(pairs(), pairs(), pairs("", ""))},
	} {
		if got := name.Under(c.r, c.n); !same(got, c.want) {
			t.Errorf("Under(%q, %q) = %q", c.r, c.n, got)
		}
	}
	many := api.Name{Rdns: slices.Repeat([]api.Rdn{rdn("cn", "a")}, 1000)}
	if n := name.Under(rdn("ou", "b"), many); len(n.Rdns) != 1001 || n.Rdns[0].Avas[0].Type != "ou" || n.Rdns[1000].Avas[0].Type != "cn" {
		t.Errorf("%d parts", len(n.Rdns))
	}
}

func TestAboveOfUnder(t *testing.T) {
	r := rand.New(rand.NewSource(11))
	for range 500 {
		n := someName(r, someWords, someValues)
		part := rdn("cn", "x")
		if up, ok := name.Above(name.Under(part, n)); !same(up, n) || !ok {
			t.Errorf("%q: %q, %v", n, up, ok)
		}
		if up, ok := name.Above(n); ok && !same(name.Under(n.Rdns[0], up), n) {
			t.Errorf("%q: %q", n, up)
		}
	}
}
