package tree

import (
	"iter"
	"strings"

	"roster/api"
	"roster/idlist"
	"roster/name"
)

func (t *Tree) has(key string) bool {
	_, there := t.ids.Get(key)
	return there
}

func (t *Tree) put(key string, id uint64) {
	t.ids.Put(key, id)
	t.keys[id] = key
}

// room says why nothing can be put at a key, if so; stands is whether what is to be put there stands somewhere already, where it stays.
func (t *Tree) room(key string, stands bool) api.Errno {
	steps := name.Steps(key)
	if len(steps) == 0 {
		return api.ErrName
	}
	if stands || t.has(key) {
		return api.ErrThere
	}
	above := key[:len(key)-len(steps[len(steps)-1])]
	if above != "" && !t.has(above) {
		return api.ErrParent
	}
	return api.OK
}

// from goes over what is there of a key and all below it, as it was at the call: of rows of steps just those lie below another one that begin with its bytes, and they follow it.
func (t *Tree) from(key string) iter.Seq2[string, uint64] {
	all := t.ids.From(key)
	return func(yield func(string, uint64) bool) {
		for kin, id := range all {
			if !strings.HasPrefix(kin, key) || !yield(kin, id) {
				return
			}
		}
	}
}

// below is from without the key itself.
func (t *Tree) below(key string) iter.Seq2[string, uint64] {
	all := t.from(key)
	return func(yield func(string, uint64) bool) {
		for kin, id := range all {
			if kin != key && !yield(kin, id) {
				return
			}
		}
	}
}

// scopes has at each scope's number what finds the numbers that this scope has of a key.
func (t *Tree) scopes() [api.ScKids + 1]func(key string) []uint64 {
	return [...]func(key string) []uint64{
		api.ScBase: func(key string) []uint64 {
			id, there := t.ids.Get(key)
			if !there {
				return nil
			}
			return []uint64{id}
		},
		api.ScOne:  t.rightBelow,
		api.ScSub:  func(key string) []uint64 { return idsOf(t.from(key)) },
		api.ScKids: func(key string) []uint64 { return idsOf(t.below(key)) },
	}
}

// rightBelow leaves out what follows a key that is right below, and begins with its bytes: the first that does not is right below again.
func (t *Tree) rightBelow(key string) []uint64 {
	var ids []uint64
	last := ""
	for kin, id := range t.below(key) {
		if last == "" || !strings.HasPrefix(kin, last) {
			ids, last = append(ids, id), kin
		}
	}
	return idlist.Union(ids)
}

// idsOf is the rising list of the numbers.
func idsOf(kin iter.Seq2[string, uint64]) []uint64 {
	var ids []uint64
	for _, id := range kin {
		ids = append(ids, id)
	}
	return idlist.Union(ids)
}
