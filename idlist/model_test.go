package idlist_test

import (
	"encoding/binary"
	"fmt"
	"maps"
	"math/big"
	"math/rand"
	"slices"
	"testing"

	"roster/api"
)

const top = 1<<64 - 1

// setOf is the set of a list, by a map.
func setOf(l []uint64) []uint64 {
	there := map[uint64]int{}
	for _, id := range l {
		there[id]++
	}
	return slices.Sorted(maps.Keys(there))
}

// keep gives the numbers of l's set of which yes is true.
func keep(l []uint64, yes func(uint64) bool) []uint64 {
	var out []uint64
	for _, id := range setOf(l) {
		if yes(id) {
			out = append(out, id)
		}
	}
	return out
}

func has(l []uint64, id uint64) bool {
	for _, other := range l {
		if other == id {
			return true
		}
	}
	return false
}

// packBy packs by the library's numbers.
func packBy(l []uint64) []byte {
	s := setOf(l)
	b := binary.AppendUvarint(nil, uint64(len(s)))
	for at, id := range s {
		if at > 0 {
			id = id - s[at-1] - 1
		}
		b = binary.AppendUvarint(b, id)
	}
	return b
}

// numberBy reads a number by big numbers, and says at which place it ends.
func numberBy(b []byte, at int) (*big.Int, int, api.Errno) {
	n, from := new(big.Int), at
	for ; at < len(b); at++ {
		count := at - from
		if count == 9 && b[at] > 1 {
			return nil, 0, api.ErrArg
		}
		group := new(big.Int).SetUint64(uint64(b[at]) & 0x7f)
		n.Add(n, group.Lsh(group, uint(7*count)))
		if b[at]&0x80 != 0 {
			continue
		}
		if few := binary.AppendUvarint(nil, n.Uint64()); len(few) != count+1 {
			return nil, 0, api.ErrArg
		}
		return n, at + 1, api.OK
	}
	return nil, 0, api.ErrShort
}

func unpackBy(b []byte) ([]uint64, api.Errno) {
	count, at, e := numberBy(b, 0)
	if e != api.OK {
		return nil, e
	}
	var l []uint64
	last, one := big.NewInt(-1), big.NewInt(1)
	for ; count.Sign() > 0; count.Sub(count, one) {
		var n *big.Int
		if n, at, e = numberBy(b, at); e != api.OK {
			return nil, e
		}
		last = n.Add(n, last.Add(last, one))
		if last.BitLen() > 64 {
			return nil, api.ErrArg
		}
		l = append(l, last.Uint64())
	}
	if at < len(b) {
		return nil, api.ErrArg
	}
	return l, api.OK
}

// rowsOf are all rows of up to most of these.
func rowsOf[T any](of []T, most int) [][]T {
	rows := [][]T{nil}
	for from := 0; most > 0; most-- {
		to := len(rows)
		for _, row := range rows[from:to] {
			for _, x := range of {
				rows = append(rows, append(slices.Clip(slices.Clone(row)), x))
			}
		}
		from = to
	}
	return rows
}

// shortLists are all lists of up to most numbers of the least and the greatest, right and not.
func shortLists(most int) [][]uint64 {
	return rowsOf([]uint64{0, 1, 2, top - 1, top}, most)
}

// someLists are right lists and others, many of whose numbers two of them have.
func someLists() [][]uint64 {
	r := rand.New(rand.NewSource(4))
	lists := [][]uint64{nil, {0}, {top}, {0, top}, {top, 0}, {7, 7, 7}}
	for count := 1; count < 40; count++ {
		wild := make([]uint64, count)
		for k := range wild {
			wild[k] = uint64(r.Intn(3 * count))
			if r.Intn(8) == 0 {
				wild[k] = top - wild[k]
			}
		}
		lists = append(lists, wild, setOf(wild))
	}
	return lists
}

// brief tells a list, a long one by its beginning and its length.
func brief(l []uint64) string {
	if len(l) > 12 {
		return fmt.Sprintf("%v.. (%d numbers)", l[:12], len(l))
	}
	return fmt.Sprint(l)
}

func is(t *testing.T, what string, got []uint64, want ...uint64) {
	t.Helper()
	if !slices.Equal(got, want) {
		t.Errorf("%s: %s, want %s", what, brief(got), brief(want))
	}
}

// upTo is 0, step, 2 * step and so on, up to (without) end.
func upTo(end, step uint64) []uint64 {
	var l []uint64
	for id := uint64(0); id < end; id += step {
		l = append(l, id)
	}
	return l
}
