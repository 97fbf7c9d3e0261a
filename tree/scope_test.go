package tree_test

import (
	"slices"
	"testing"

	"roster/api"
	"roster/tree"
)

func scopes(t *testing.T, it *tree.Tree, key string, scope int8, want ...uint64) {
	t.Helper()
	if got, e := it.Scope(key, scope); e != api.OK || !slices.Equal(got, want) {
		t.Errorf("Scope(%q, %d) is %d, %v, not %d", key, scope, got, e, want)
	}
}

func refusesScope(t *testing.T, it *tree.Tree, key string, scope int8, want api.Errno) {
	t.Helper()
	if got, e := it.Scope(key, scope); e != want || len(got) != 0 {
		t.Errorf("Scope(%q, %d) is %d, %v, not %v", key, scope, got, e, want)
	}
}

// The chapter's examples of Scope.
func TestExamplesOfScope(t *testing.T) {
	it := exampleTree(t)
	scopes(t, it, a, api.ScOne, 3)
	scopes(t, it, a, api.ScSub, 3, 5, 9)
	scopes(t, it, a, api.ScKids, 3, 9)
	scopes(t, it, a, api.ScBase, 5)
	scopes(t, it, "", api.ScOne, 5, 7)
	scopes(t, it, "", api.ScSub, 3, 5, 7, 9)
	scopes(t, it, "", api.ScBase)
	refusesScope(t, it, q, api.ScSub, api.ErrNone)
	refusesScope(t, it, a, 4, api.ErrArg)
}

// P21.4: what is no scope is told ahead of what is not there, whatever the key is.
func TestNoScope(t *testing.T) {
	it := exampleTree(t)
	for scope := -128; scope < 128; scope++ {
		none := scope < 0 || scope > 3
		for _, key := range []string{q, bare, qr, "1=1:a", abc + q} {
			want := api.ErrNone
			if none {
				want = api.ErrArg
			}
			refusesScope(t, it, key, int8(scope), want)
		}
		if none {
			refusesScope(t, it, a, int8(scope), api.ErrArg)
			refusesScope(t, it, "", int8(scope), api.ErrArg)
		}
	}
}

// P21.4: every scope of every key.
func TestScopes(t *testing.T) {
	it := exampleTree(t)
	scopes(t, it, "", api.ScKids, 3, 5, 7, 9)
	scopes(t, it, ab, api.ScBase, 3)
	scopes(t, it, ab, api.ScOne, 9)
	scopes(t, it, ab, api.ScSub, 3, 9)
	scopes(t, it, ab, api.ScKids, 9)
	scopes(t, it, abc, api.ScBase, 9)
	scopes(t, it, abc, api.ScOne)
	scopes(t, it, abc, api.ScSub, 9)
	scopes(t, it, abc, api.ScKids)
	scopes(t, it, x, api.ScSub, 7)
	scopes(t, it, x, api.ScOne)
}

// P21.4: the numbers rise, however the keys stand.
func TestListsRise(t *testing.T) {
	it := tree.New()
	is(t, "Add(a, 50)", it.Add(a, 50), api.OK)
	for n := range uint64(40) {
		kid := a + "1=1:" + string(rune('0'+n)) + ";"
		is(t, "Add", it.Add(kid, 49-n), api.OK)
		is(t, "Add", it.Add(kid+z, 100-n), api.OK)
	}
	one, _ := it.Scope(a, api.ScOne)
	sub, _ := it.Scope(a, api.ScSub)
	kids, _ := it.Scope("", api.ScKids)
	if len(one) != 40 || one[0] != 10 || one[39] != 49 || !slices.IsSorted(one) {
		t.Errorf("right below are %d", one)
	}
	if len(sub) != 81 || !slices.IsSorted(sub) || !slices.Equal(sub, kids) {
		t.Errorf("below are %d and %d", sub, kids)
	}
}
