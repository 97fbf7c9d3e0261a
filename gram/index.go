package gram

import (
	"cmp"
	"slices"

	"roster/api"
	"roster/idlist"
)

// counts are those of one gram, by the number; all are above 0, so that there are as many as numbers have the gram.
type counts map[uint64]int

// Index is which numbers have which grams. A gram that no number has isn't kept.
type Index struct {
	byGram map[uint32]counts
}

// New: P13.3.
func New() *Index {
	return &Index{byGram: map[uint32]counts{}}
}

// Put: P13.3.
func (x *Index) Put(id uint64, key string) {
	if x == nil {
		return
	}
	for _, gram := range Grams(key) {
		if x.byGram[gram] == nil {
			x.byGram[gram] = counts{}
		}
		x.byGram[gram][id]++
	}
}

// Drop: P13.3.
func (x *Index) Drop(id uint64, key string) {
	if x == nil {
		return
	}
	for _, gram := range Grams(key) {
		x.byGram[gram].drop(id)
		if len(x.byGram[gram]) == 0 {
			delete(x.byGram, gram)
		}
	}
}

func (c counts) drop(id uint64) {
	if c[id] > 1 {
		c[id]--
	} else {
		delete(c, id)
	}
}

// Find: P13.4. The numbers come as the map has them: idlist makes of a list in any order the rising one.
func (x *Index) Find(grams []uint32) ([]uint64, api.Errno) {
	if x == nil {
		return nil, api.ErrNil
	}
	if len(grams) == 0 {
		return nil, api.ErrGrams
	}
	asked := x.rarestFirst(grams)
	var found []uint64
	for id := range asked[0] {
		if hasAll(asked[1:], id) {
			found = append(found, id)
		}
	}
	return idlist.Union(found), api.OK
}

// rarestFirst gives the counts of each gram once, those of the fewest numbers first, so that as few numbers as can be are looked at.
func (x *Index) rarestFirst(grams []uint32) []counts {
	var asked []counts
	for _, gram := range rising(slices.Clone(grams)) {
		asked = append(asked, x.byGram[gram])
	}
	slices.SortFunc(asked, func(a, b counts) int { return cmp.Compare(len(a), len(b)) })
	return asked
}

func hasAll(asked []counts, id uint64) bool {
	for _, c := range asked {
		if c[id] == 0 {
			return false
		}
	}
	return true
}

// Count: P13.4.
func (x *Index) Count(gram uint32) int {
	if x == nil {
		return 0
	}
	return len(x.byGram[gram])
}
