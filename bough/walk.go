package bough

import (
	"iter"
	"slices"
)

// walk goes over the pairs from n down, those at side first, but not over those at its beginning that are to be skipped. The order is asked here alone, at the call: what is ranged over hangs on no key that was handed in.
func walk[K, V any](n *node[K, V], side int, skip func(k K) bool) iter.Seq2[K, V] {
	var first []*node[K, V]
	for n != nil {
		if skip(n.key) {
			n = n.kids[1-side]
		} else {
			first = append(first, n)
			n = n.kids[side]
		}
	}
	return func(yield func(K, V) bool) {
		// The nodes whose turn is still to come, each with its kid at the other side; the next one stands last.
		wait := slices.Clone(first)
		for len(wait) > 0 {
			last := len(wait) - 1
			n := wait[last]
			wait = wait[:last]
			if !yield(n.key, n.value) {
				return
			}
			for kid := n.kids[1-side]; kid != nil; kid = kid.kids[side] {
				wait = append(wait, kid)
			}
		}
	}
}
