package tree_test

import (
	"strings"
	"testing"

	"roster/api"
	"roster/tree"
)

// The keys of the chapter's examples.
const (
	a    = "1=1:a;"
	ab   = "1=1:a;2=1:b;"
	abc  = "1=1:a;2=1:b;3=1:c;"
	abq  = "1=1:a;2=1:b;1=1:q;"
	abz  = "1=1:a;2=1:b;1=1:z;"
	q    = "1=1:q;"
	qr   = "1=1:q;1=1:r;"
	qz   = "1=1:q;1=1:z;"
	x    = "1=1:x;"
	xy   = "1=1:x;1=1:y;"
	xyc  = "1=1:x;1=1:y;3=1:c;"
	z    = "1=1:z;"
	bare = "1=1"
)

func is(t *testing.T, call string, got, want api.Errno) {
	t.Helper()
	if got != want {
		t.Errorf("%s is %v, not %v", call, got, want)
	}
}

func isNearest(t *testing.T, it *tree.Tree, key, want string) {
	t.Helper()
	if got, there := it.Nearest(key); got != want || there != (want != "") {
		t.Errorf("Nearest(%q) is %q, %v, not %q", key, got, there, want)
	}
}

func isId(t *testing.T, it *tree.Tree, key string, want uint64, wanted bool) {
	t.Helper()
	if got, there := it.Id(key); got != want || there != wanted {
		t.Errorf("Id(%q) is %d, %v, not %d, %v", key, got, there, want, wanted)
	}
}

func isKey(t *testing.T, it *tree.Tree, id uint64, want string) {
	t.Helper()
	if got, there := it.Key(id); got != want || there != (want != "") {
		t.Errorf("Key(%d) is %q, %v, not %q", id, got, there, want)
	}
}

func exampleTree(t *testing.T) *tree.Tree {
	t.Helper()
	it := tree.New()
	is(t, "Add(a, 5)", it.Add(a, 5), api.OK)
	is(t, "Add(ab, 3)", it.Add(ab, 3), api.OK)
	is(t, "Add(abc, 9)", it.Add(abc, 9), api.OK)
	is(t, "Add(x, 7)", it.Add(x, 7), api.OK)
	return it
}

// The chapter's examples.
func TestExamples(t *testing.T) {
	it := exampleTree(t)
	is(t, "Add(a, 6)", it.Add(a, 6), api.ErrThere)
	is(t, "Add(z, 5)", it.Add(z, 5), api.ErrThere)
	is(t, "Add(qr, 8)", it.Add(qr, 8), api.ErrParent)
	is(t, "Add of nothing", it.Add("", 8), api.ErrName)
	is(t, "Add(1=1, 8)", it.Add(bare, 8), api.ErrName)
	isNearest(t, it, abq, ab)
	isNearest(t, it, ab, ab)
	isNearest(t, it, q, "")
	isId(t, it, abc, 9, true)
	isKey(t, it, 9, abc)
	is(t, "Drop(ab)", it.Drop(ab), api.ErrLeaf)
	is(t, "Drop(q)", it.Drop(q), api.ErrNone)
	is(t, "Move(a, abz)", it.Move(a, abz), api.ErrArg)
	is(t, "Move(a, x)", it.Move(a, x), api.ErrThere)
	is(t, "Move(a, qz)", it.Move(a, qz), api.ErrParent)
	is(t, "Move(q, z)", it.Move(q, z), api.ErrNone)
	is(t, "Move(a, a)", it.Move(a, a), api.ErrThere)
	is(t, "Move(ab, xy)", it.Move(ab, xy), api.OK)
	isKey(t, it, 9, xyc)
	scopes(t, it, a, api.ScSub, 5)
}

// P21.1: of a new tree nothing is there.
func TestNewTree(t *testing.T) {
	it := tree.New()
	if it == nil || it.Len() != 0 {
		t.Fatal("New has something")
	}
	isId(t, it, "", 0, false)
	isId(t, it, a, 0, false)
	isKey(t, it, 0, "")
	isNearest(t, it, a, "")
	isNearest(t, it, "", "")
	is(t, "Drop", it.Drop(a), api.ErrNone)
	is(t, "Drop of nothing", it.Drop(""), api.ErrNone)
	is(t, "Move", it.Move(a, x), api.ErrNone)
	is(t, "Move of nothing", it.Move("", ""), api.ErrNone)
	for scope := int8(0); scope < 4; scope++ {
		scopes(t, it, "", scope)
		refusesScope(t, it, a, scope, api.ErrNone)
	}
}

// Of several errors the first counts.
func TestFirstErrorOfAdd(t *testing.T) {
	it := exampleTree(t)
	for _, text := range []string{"", bare, "1=1:a", "1=1:a;2=1:b", "01=1:a;", "1=01:a;", "1=2:a;", "1=1:a;;", ";", "1=1:a+1=1:b;", "2=1:a+1=1:b;", "1234567890=1:a;", "1=1:a;x", "cn=a", "\xff", "1=999999999:a;"} {
		is(t, "Add of "+text, it.Add(text, 8), api.ErrName)
		is(t, "Add of "+text+" with 5", it.Add(text, 5), api.ErrName)
		is(t, "Move to "+text, it.Move(a, text), api.ErrName)
		is(t, "Move of q to "+text, it.Move(q, text), api.ErrNone)
		is(t, "Drop of "+text, it.Drop(text), api.ErrNone)
		is(t, "Move of "+text, it.Move(text, text), api.ErrNone)
		isNearest(t, it, text, "")
		isId(t, it, text, 0, false)
	}
	is(t, "Add(a, 5)", it.Add(a, 5), api.ErrThere)
	is(t, "Add(qr, 5)", it.Add(qr, 5), api.ErrThere)
	is(t, "Add(a.., 3)", it.Add(a+z, 3), api.ErrThere)
	is(t, "Add(qr.., 8)", it.Add(qr+z, 8), api.ErrParent)
	is(t, "Add(az.., 8)", it.Add(a+z+z, 8), api.ErrParent)
	if it.Len() != 4 {
		t.Errorf("there are %d", it.Len())
	}
}

// A key that is there does not make way for its own number either, nor does a number for a key that is none.
func TestFirstErrorOfMove(t *testing.T) {
	it := exampleTree(t)
	is(t, "a below one below it that is not there", it.Move(a, ab+z+z), api.ErrParent)
	is(t, "a below itself", it.Move(a, a+z), api.ErrArg)
	is(t, "a far below itself", it.Move(a, abc+z), api.ErrArg)
	is(t, "a onto one below it", it.Move(a, abc), api.ErrThere)
	is(t, "abc onto one above it", it.Move(abc, a), api.ErrThere)
	is(t, "abc below the right one, beside", it.Move(abc, abz), api.OK)
	is(t, "and back", it.Move(abz, abc), api.OK)
	is(t, "to the empty key", it.Move(a, ""), api.ErrName)
	is(t, "of the empty key", it.Move("", z), api.ErrNone)
	is(t, "of the empty key to itself", it.Move("", ""), api.ErrNone)
	is(t, "of one that is not there, to none", it.Move(q, bare), api.ErrNone)
	is(t, "of one that is not there, onto one that is", it.Move(q, x), api.ErrNone)
	is(t, "of one that is not there, onto itself", it.Move(q, q), api.ErrNone)
	is(t, "to the top", it.Move(abc, z), api.OK)
	isKey(t, it, 9, z)
	is(t, "to the right below of where it was", it.Move(z, abc), api.OK)
	is(t, "one step up", it.Move(abc, a+z), api.OK)
	isKey(t, it, 9, a+z)
	is(t, "Drop(ab), below which nothing is any more", it.Drop(ab), api.OK)
	isKey(t, it, 3, "")
}

// A place that begins with a key's bytes, but not with its steps, does not lie below it.
func TestBytesAreNoSteps(t *testing.T) {
	it := tree.New()
	const pair, beside = "1=1:a+2=1:b;", "1=6:1=1:a;;"
	is(t, "Add(a, 1)", it.Add(a, 1), api.OK)
	is(t, "Add of a pair with a's", it.Add(pair, 2), api.OK)
	is(t, "Add of a's text as a value", it.Add(beside, 3), api.OK)
	is(t, "Add(1=1:;;, 4)", it.Add("1=1:;;", 4), api.OK)
	is(t, "Add(1=1:;;a, 5)", it.Add("1=1:;;"+a, 5), api.OK)
	is(t, "Add below the pair", it.Add(pair+a, 6), api.OK)
	scopes(t, it, a, api.ScSub, 1)
	scopes(t, it, a, api.ScOne)
	scopes(t, it, a, api.ScKids)
	scopes(t, it, "1=1:;;", api.ScSub, 4, 5)
	refusesScope(t, it, "1=1:;", api.ScSub, api.ErrNone)
	refusesScope(t, it, "1=1:a", api.ScSub, api.ErrNone)
	refusesScope(t, it, "1", api.ScSub, api.ErrNone)
	scopes(t, it, "", api.ScOne, 1, 2, 3, 4)
	isNearest(t, it, a+"1=1:a", "")
	isNearest(t, it, a+"x", "")
	isNearest(t, it, "1=1:;", "")
	isNearest(t, it, pair+z, pair)
	isNearest(t, it, beside+a+a, beside)
	is(t, "Drop(a)", it.Drop(a), api.OK)
	is(t, "Drop of the pair", it.Drop(pair), api.ErrLeaf)
}

// P21.3: of what is above the one with the most steps counts.
func TestNearest(t *testing.T) {
	it := exampleTree(t)
	isNearest(t, it, "", "")
	isNearest(t, it, a, a)
	isNearest(t, it, a+z, a)
	isNearest(t, it, a+z+"2=1:b;3=1:c;", a)
	isNearest(t, it, abc, abc)
	isNearest(t, it, abc+strings.Repeat(z, 5000), abc)
	isNearest(t, it, strings.Repeat(z, 5000), "")
	isNearest(t, it, abc+bare, "")
	isNearest(t, it, abc[:len(abc)-1], "")
	isNearest(t, it, x+abc, x)
}

// P21.2, P21.3: any number will do, 0 too, and it is free again behind a Drop, as is its key.
func TestNumbersOfAllKinds(t *testing.T) {
	it := tree.New()
	is(t, "Add(a, 0)", it.Add(a, 0), api.OK)
	is(t, "Add(x, greatest)", it.Add(x, greatest), api.OK)
	is(t, "Add(z, 0)", it.Add(z, 0), api.ErrThere)
	isId(t, it, a, 0, true)
	isKey(t, it, 0, a)
	isKey(t, it, greatest, x)
	scopes(t, it, "", api.ScSub, 0, greatest)
	is(t, "Drop(a)", it.Drop(a), api.OK)
	isId(t, it, a, 0, false)
	isKey(t, it, 0, "")
	is(t, "Add(z, 0)", it.Add(z, 0), api.OK)
	is(t, "Add(a, 4)", it.Add(a, 4), api.OK)
	is(t, "Drop(a)", it.Drop(a), api.OK)
	is(t, "Drop(a) again", it.Drop(a), api.ErrNone)
	if it.Len() != 2 {
		t.Errorf("there are %d", it.Len())
	}
}

// One below the other by very many steps; a Move takes all of them along.
func TestManySteps(t *testing.T) {
	it, key := tree.New(), ""
	const many = 600
	for n := range uint64(many) {
		key += z
		is(t, "Add", it.Add(key, many-n), api.OK)
	}
	is(t, "Drop of the topmost", it.Drop(z), api.ErrLeaf)
	scopes(t, it, "", api.ScOne, many)
	scopes(t, it, key, api.ScSub, 1)
	scopes(t, it, key, api.ScKids)
	scopes(t, it, z+z, api.ScOne, many-2)
	is(t, "Move of the topmost", it.Move(z, "7=3:abc;"), api.OK)
	isKey(t, it, 1, "7=3:abc;"+key[len(z):])
	isNearest(t, it, key, "")
	isNearest(t, it, "7=3:abc;"+key, "7=3:abc;"+key[len(z):])
	is(t, "Move of its half up", it.Move("7=3:abc;"+strings.Repeat(z, 299), z), api.OK)
	isKey(t, it, 1, strings.Repeat(z, 301))
	if l, e := it.Scope(z, api.ScSub); len(l) != 301 || e != api.OK {
		t.Errorf("below z there are %d, %v", len(l), e)
	}
}

// R1: of a nil tree.
func TestNilTree(t *testing.T) {
	var it *tree.Tree
	is(t, "Add", it.Add(a, 1), api.ErrNil)
	is(t, "Add of nothing", it.Add("", 1), api.ErrNil)
	is(t, "Drop", it.Drop(a), api.ErrNil)
	is(t, "Move", it.Move(a, x), api.ErrNil)
	is(t, "Move of nothing", it.Move("", ""), api.ErrNil)
	isId(t, it, a, 0, false)
	isKey(t, it, 0, "")
	isNearest(t, it, a, "")
	for _, scope := range []int8{api.ScBase, api.ScOne, api.ScSub, api.ScKids, 4, -1} {
		refusesScope(t, it, a, scope, api.ErrNil)
		refusesScope(t, it, "", scope, api.ErrNil)
	}
	if it.Len() != 0 {
		t.Error("a nil tree has some")
	}
}
