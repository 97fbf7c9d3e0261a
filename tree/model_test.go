package tree_test

import (
	"fmt"
	"math/rand"
	"slices"
	"strings"
	"testing"

	"roster/api"
	"roster/tree"
)

const greatest = 1<<64 - 1

// stepOf is the step of a letter; those of capital letters can be none. Values look like steps, or end them too early, and pairs beside others come ahead of what lies below.
func stepOf(letter rune) string {
	switch letter {
	case 'a':
		return "1=1:a;"
	case 'b':
		return "1=1:a+2=1:b;"
	case 'c':
		return "1=2:;;;"
	case 'd':
		return "1=6:1=1:a;;"
	case 'e':
		return "1=0:;"
	case 'f':
		return "1=7:1=1:a;1;"
	case 'g':
		return "10=1:\xff;"
	case 'A':
		return "1=1:a"
	case 'B':
		return "2=1:b+1=1:a;"
	case 'C':
		return "01=1:a;"
	case 'D':
		return "1=2:a;"
	}
	return "1=1:" + string(letter) + ";"
}

// keyOf is the text of a row of letters, each of which stands for a step.
func keyOf(letters string) string {
	var key strings.Builder
	for _, letter := range letters {
		key.WriteString(stepOf(letter))
	}
	return key.String()
}

// isRow tells whether a row of letters is a row of steps.
func isRow(letters string) bool { return !strings.ContainsAny(letters, "ABCD") }

// plain is the numbers by rows of letters: what lies below another one begins with its letters.
type plain map[string]uint64

func (p plain) has(letters string) bool {
	_, there := p[letters]
	return there
}

func (p plain) at(id uint64) (string, bool) {
	for letters, one := range p {
		if one == id {
			return letters, true
		}
	}
	return "", false
}

// room is what is wrong with a new place of something.
func (p plain) room(letters string, taken bool) api.Errno {
	switch {
	case letters == "" || !isRow(letters):
		return api.ErrName
	case taken || p.has(letters):
		return api.ErrThere
	case len(letters) > 1 && !p.has(letters[:len(letters)-1]):
		return api.ErrParent
	}
	return api.OK
}

func (p plain) add(letters string, id uint64) api.Errno {
	_, taken := p.at(id)
	e := p.room(letters, taken)
	if e == api.OK {
		p[letters] = id
	}
	return e
}

func (p plain) drop(letters string) api.Errno {
	if !p.has(letters) {
		return api.ErrNone
	}
	for one := range p {
		if len(one) > len(letters) && strings.HasPrefix(one, letters) {
			return api.ErrLeaf
		}
	}
	delete(p, letters)
	return api.OK
}

func (p plain) move(letters, to string) api.Errno {
	if !p.has(letters) {
		return api.ErrNone
	}
	if e := p.room(to, false); e != api.OK {
		return e
	}
	if strings.HasPrefix(to, letters) {
		return api.ErrArg
	}
	moved := plain{}
	for one, id := range p {
		if strings.HasPrefix(one, letters) {
			moved[to+strings.TrimPrefix(one, letters)] = id
			delete(p, one)
		}
	}
	for one, id := range moved {
		p[one] = id
	}
	return api.OK
}

func (p plain) nearest(letters string) (string, bool) {
	for size := len(letters); size > 0 && isRow(letters); size-- {
		if p.has(letters[:size]) {
			return letters[:size], true
		}
	}
	return "", false
}

func (p plain) scope(letters string, scope int8) ([]uint64, api.Errno) {
	if !slices.Contains([]int8{api.ScBase, api.ScOne, api.ScSub, api.ScKids}, scope) {
		return nil, api.ErrArg
	}
	if letters != "" && !p.has(letters) {
		return nil, api.ErrNone
	}
	var ids []uint64
	for one, id := range p {
		deep := len(one) - len(letters)
		if !strings.HasPrefix(one, letters) {
			continue
		}
		if scope == api.ScBase && deep == 0 || scope == api.ScOne && deep == 1 || scope == api.ScSub || scope == api.ScKids && deep > 0 {
			ids = append(ids, id)
		}
	}
	slices.Sort(ids)
	return ids, api.OK
}

// dice is seeded chance.
type dice struct{ *rand.Rand }

func diceOf(seed int64) dice { return dice{rand.New(rand.NewSource(seed))} }

func oneOf[T any](d dice, all []T) T { return all[d.Intn(len(all))] }

// someIds are few, so that they meet.
var someIds = []uint64{0, 1, 2, 3, 5, 8, 13, 21, 34, 55, 1 << 31, 1 << 32, 1 << 63, greatest - 1, greatest}

// letters is a row of few letters, seldom none or no row of steps.
func (d dice) letters() string {
	var row strings.Builder
	for range d.Intn(4) + 1 {
		row.WriteByte(oneOf(d, []byte("abcdefg")))
	}
	switch d.Intn(30) {
	case 0:
		row.WriteByte(oneOf(d, []byte("ABCD")))
	case 1:
		return string(oneOf(d, []byte("ABCD"))) + row.String()
	case 2:
		return ""
	}
	return row.String()
}

// place is a row of letters that is there, or one right below such a one, or any.
func (d dice) place(p plain) string {
	row := d.letters()
	all := []string{""}
	for one := range p {
		all = append(all, one)
	}
	slices.Sort(all)
	switch d.Intn(5) {
	case 0, 1:
		return oneOf(d, all)
	case 2, 3:
		return oneOf(d, all) + row[:min(1, len(row))]
	}
	return row
}

// both is a tree and the plain table, to which the same is done.
type both struct {
	t     testing.TB
	it    *tree.Tree
	plain plain
}

func bothOf(t testing.TB) *both { return &both{t, tree.New(), plain{}} }

// does holds one answer of a change against the table's.
func (b *both) does(call string, got, want api.Errno) {
	b.t.Helper()
	if got != want {
		b.t.Fatalf("%s is %v, not %v; there are %v", call, got, want, b.plain)
	}
}

func (b *both) add(letters string, id uint64) {
	b.t.Helper()
	b.does(fmt.Sprintf("Add(%s, %d)", letters, id), b.it.Add(keyOf(letters), id), b.plain.add(letters, id))
}

func (b *both) drop(letters string) {
	b.t.Helper()
	b.does(fmt.Sprintf("Drop(%s)", letters), b.it.Drop(keyOf(letters)), b.plain.drop(letters))
}

func (b *both) move(letters, to string) {
	b.t.Helper()
	b.does(fmt.Sprintf("Move(%s, %s)", letters, to), b.it.Move(keyOf(letters), keyOf(to)), b.plain.move(letters, to))
}

// step does any of the changes.
func (b *both) step(d dice) {
	b.t.Helper()
	switch d.Intn(6) {
	case 0, 1, 2:
		b.add(d.place(b.plain), oneOf(d, someIds))
	case 3:
		b.drop(d.place(b.plain))
	default:
		b.move(d.place(b.plain), d.place(b.plain))
	}
}

// ask holds all that can be asked of a row of letters against the table.
func (b *both) ask(letters string) {
	b.t.Helper()
	key := keyOf(letters)
	id, there := b.it.Id(key)
	if id != b.plain[letters] || there != b.plain.has(letters) {
		b.t.Fatalf("Id(%s) is %d, %v; there are %v", letters, id, there, b.plain)
	}
	near, there := b.it.Nearest(key)
	want, wanted := b.plain.nearest(letters)
	if near != keyOf(want) || there != wanted {
		b.t.Fatalf("Nearest(%s) is %q, %v, not %s; there are %v", letters, near, there, want, b.plain)
	}
	for scope := int8(-2); scope < 7; scope++ {
		got, e := b.it.Scope(key, scope)
		want, wrong := b.plain.scope(letters, scope)
		if e != wrong || !slices.Equal(got, want) {
			b.t.Fatalf("Scope(%s, %d) is %d, %v, not %d, %v; there are %v", letters, scope, got, e, want, wrong, b.plain)
		}
	}
}

// check asks all of the tree: of every row of letters that is there, of what is beside and below it, and of some others.
func (b *both) check(d dice) {
	b.t.Helper()
	if b.it.Len() != len(b.plain) {
		b.t.Fatalf("Len is %d; there are %v", b.it.Len(), b.plain)
	}
	for _, id := range append([]uint64{4, 1<<31 - 1}, someIds...) {
		key, there := b.it.Key(id)
		letters, wanted := b.plain.at(id)
		if key != keyOf(letters) || there != wanted {
			b.t.Fatalf("Key(%d) is %q, %v, not %s; there are %v", id, key, there, letters, b.plain)
		}
	}
	b.ask("")
	for letters := range b.plain {
		for _, more := range []string{"", "a", "b", "ga", "A", "Ba", "aC", "D"} {
			b.ask(letters + more)
		}
	}
	for range 10 {
		b.ask(d.letters())
	}
}

// planted is the tree of the chapter's examples.
func planted(t testing.TB) *both {
	b := bothOf(t)
	b.add("a", 5)
	b.add("ab", 3)
	b.add("abc", 9)
	b.add("x", 7)
	return b
}
