package gram_test

import (
	"fmt"
	"maps"
	"math/rand"
	"slices"
	"strings"
	"testing"

	"roster/api"
	"roster/gram"
)

const top = 1<<64 - 1

// gramOf is the number of three symbols.
func gramOf(a, b, c int) uint32 { return uint32(262144*a + 512*b + c) }

// symbolsOf are a text's bytes.
func symbolsOf(text string) []int {
	var row []int
	for _, b := range []byte(text) {
		row = append(row, int(b))
	}
	return row
}

// gramsBy are the grams of rows of symbols, by a map.
func gramsBy(rows ...[]int) []uint32 {
	there := map[uint32]int{}
	for _, row := range rows {
		for at := 0; at+3 <= len(row); at++ {
			there[gramOf(row[at], row[at+1], row[at+2])]++
		}
	}
	return slices.Sorted(maps.Keys(there))
}

func keyGramsBy(key string) []uint32 {
	return gramsBy(slices.Concat([]int{256}, symbolsOf(key), []int{257}))
}

// askedBy goes by P13.2's words.
func askedBy(pieces []string) []uint32 {
	if len(pieces) < 2 {
		return nil
	}
	var rows [][]int
	start, middles, end := pieces[0], pieces[1:len(pieces)-1], pieces[len(pieces)-1]
	if start != "" {
		rows = append(rows, append([]int{256}, symbolsOf(start)...))
	}
	if end != "" {
		rows = append(rows, append(symbolsOf(end), 257))
	}
	for _, middle := range middles {
		rows = append(rows, symbolsOf(middle))
	}
	return gramsBy(rows...)
}

// hasPieces looks plainly whether a key has the pieces: the middles are tried at all places.
func hasPieces(key string, pieces []string) bool {
	start, middles, end := pieces[0], pieces[1:len(pieces)-1], pieces[len(pieces)-1]
	if !strings.HasPrefix(key, start) || !strings.HasSuffix(key[len(start):], end) {
		return false
	}
	return hasMiddles(key[len(start):len(key)-len(end)], middles)
}

func hasMiddles(text string, middles []string) bool {
	if len(middles) == 0 {
		return true
	}
	for at := range len(text) + 1 {
		if rest, ok := strings.CutPrefix(text[at:], middles[0]); ok && hasMiddles(rest, middles[1:]) {
			return true
		}
	}
	return false
}

// texts are all texts of up to most of these bytes.
func texts(of string, most int) []string {
	all := []string{""}
	for from := 0; most > 0; most-- {
		to := len(all)
		for _, text := range all[from:to] {
			for at := range len(of) {
				all = append(all, text+of[at:at+1])
			}
		}
		from = to
	}
	return all
}

// textBy is a text of up to most bytes, by chance, of few bytes or of any.
func textBy(chance *rand.Rand, most int) string {
	of := []string{"ab", "abc", "\x00\xff", "abcdefgh", ""}[chance.Intn(5)]
	b := make([]byte, chance.Intn(most+1))
	for at := range b {
		if of == "" {
			b[at] = byte(chance.Intn(256))
		} else {
			b[at] = of[chance.Intn(len(of))]
		}
	}
	return string(b)
}

// pairOf is a number and a gram.
type pairOf struct {
	id   uint64
	gram uint32
}

// both is an index and the plain counts that it is held against.
type both struct {
	t      *testing.T
	it     *gram.Index
	counts map[pairOf]int
	ids    map[uint64]int
	grams  map[uint32]int // all that were ever handed in
}

func bothOf(t *testing.T) *both {
	return &both{t, gram.New(), map[pairOf]int{}, map[uint64]int{}, map[uint32]int{}}
}

func (b *both) put(id uint64, keys ...string) {
	for _, key := range keys {
		b.it.Put(id, key)
		b.ids[id]++
		for _, g := range keyGramsBy(key) {
			b.counts[pairOf{id, g}]++
			b.grams[g]++
		}
	}
}

func (b *both) drop(id uint64, keys ...string) {
	for _, key := range keys {
		b.it.Drop(id, key)
		b.ids[id]++
		for _, g := range keyGramsBy(key) {
			b.grams[g]++
			if b.counts[pairOf{id, g}] > 0 {
				b.counts[pairOf{id, g}]--
			}
		}
	}
}

// those are the numbers that have all these grams.
func (b *both) those(grams []uint32) []uint64 {
	var out []uint64
	for _, id := range slices.Sorted(maps.Keys(b.ids)) {
		if !slices.ContainsFunc(grams, func(g uint32) bool { return b.counts[pairOf{id, g}] == 0 }) {
			out = append(out, id)
		}
	}
	return out
}

// checkFind holds one Find against the plain counts.
func (b *both) checkFind(grams []uint32) {
	b.t.Helper()
	want, wantErr := b.those(grams), api.OK
	if len(grams) == 0 {
		want, wantErr = nil, api.ErrGrams
	}
	if got, e := b.it.Find(grams); e != wantErr || !slices.Equal(got, want) {
		b.t.Fatalf("Find(%s) is %s, %v; want %s, %v", brief(grams), brief(got), e, brief(want), wantErr)
	}
}

// check holds each gram that was ever handed in, and pairs and all of them, against the plain counts.
func (b *both) check() {
	b.t.Helper()
	all := slices.Sorted(maps.Keys(b.grams))
	for at, g := range all {
		if got, want := b.it.Count(g), len(b.those([]uint32{g})); got != want {
			b.t.Fatalf("Count(%s) is %d; want %d", brief([]uint32{g}), got, want)
		}
		b.checkFind([]uint32{g})
		b.checkFind([]uint32{g, all[at*7%len(all)]})
		b.checkFind([]uint32{all[len(all)-1-at], g, g})
	}
	b.checkFind(all)
	b.checkFind(nil)
}

// brief tells a list, a long one by its beginning and its length.
func brief[T any](l []T) string {
	if len(l) > 12 {
		return fmt.Sprintf("%v.. (%d)", l[:12], len(l))
	}
	return fmt.Sprint(l)
}

// is holds grams against others.
func is(t *testing.T, what string, got []uint32, want ...uint32) {
	t.Helper()
	if !slices.Equal(got, want) {
		t.Errorf("%q: %s; want %s", what, brief(got), brief(want))
	}
}

// finds holds what an index finds against a list.
func finds(t *testing.T, x *gram.Index, grams []uint32, want ...uint64) {
	t.Helper()
	if got, e := x.Find(grams); e != api.OK || !slices.Equal(got, want) {
		t.Errorf("Find(%s) is %s, %v; want %s", brief(grams), brief(got), e, brief(want))
	}
}
