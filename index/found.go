package index

import (
	"iter"
	"strings"

	"roster/bough"
	"roster/idlist"
)

// found is what a fetch tells. How many they are is asked to weigh one fetch against others: that should not cost what putting them in order does.
type found interface {
	list() []uint64
	many() int
}

// rising is a list that is nobody else's.
type rising []uint64

func (r rising) list() []uint64 { return r }

func (r rising) many() int { return len(r) }

// numbers are those of the entries that have one thing in common. They are a ledger with one key alone, whichever it is.
type numbers map[uint64]struct{}

// Put writes a number down.
func (n numbers) Put(id uint64, _ string) { n[id] = struct{}{} }

// Drop crosses a number out.
func (n numbers) Drop(id uint64, _ string) { delete(n, id) }

func (n numbers) list() []uint64 { return inOrder(n.addTo(nil)) }

func (n numbers) many() int { return len(n) }

func (n numbers) addTo(ids []uint64) []uint64 {
	for id := range n {
		ids = append(ids, id)
	}
	return ids
}

// inOrder: idlist makes of a list in any order the rising one.
func inOrder(ids []uint64) rising { return idlist.Union(ids) }

// together are the numbers of several keys; one that has more than one of them is told once.
func together(keys iter.Seq2[string, numbers]) rising {
	var ids []uint64
	for _, those := range keys {
		ids = those.addTo(ids)
	}
	return inOrder(ids)
}

// tree is who has which key, in the order of the keys. A key that nobody has isn't kept.
type tree struct {
	byKey *bough.Bough[string, numbers]
}

func newTree() tree { return tree{bough.New[string, numbers](strings.Compare)} }

// at has those that have the key; it may be nil.
func (t tree) at(key string) numbers {
	those, _ := t.byKey.Get(key)
	return those
}

// Put writes a number down under a key.
func (t tree) Put(id uint64, key string) {
	those := t.at(key)
	if those == nil {
		those = numbers{}
		t.byKey.Put(key, those)
	}
	those.Put(id, key)
}

// Drop crosses a number out under a key.
func (t tree) Drop(id uint64, key string) {
	those := t.at(key)
	those.Drop(id, key)
	if len(those) == 0 {
		t.byKey.Del(key)
	}
}
