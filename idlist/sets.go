package idlist

import "iter"

// Which of two lists has a number: the sum of those that do.
const (
	inFirst = 1 << iota
	inSecond
	inBoth = inFirst + inSecond
)

// Union: P4.2. The halves are put together one by one, so that many lists cost no more than their numbers times the halvings.
func Union(l ...[]uint64) []uint64 {
	switch len(l) {
	case 0:
		return nil
	case 1:
		return fresh(set(l[0]))
	}
	half := len(l) / 2
	first := Union(l[:half:half]...)
	second := Union(l[half:len(l):len(l)]...)
	all := make([]uint64, 0, len(first)+len(second))
	for id := range abreast(first, second) {
		all = append(all, id)
	}
	return all
}

// Meet: P4.2.
func Meet(a, b []uint64) []uint64 {
	return those(a, b, inBoth)
}

// Less: P4.2.
func Less(a, b []uint64) []uint64 {
	return those(a, b, inFirst)
}

// those gives the numbers of the first list that stand just where it is asked for: behind its end nothing is left to find.
func those(a, b []uint64, where int) []uint64 {
	a, b = set(a), set(b)
	var found []uint64
	for id, in := range abreast(a, b) {
		if len(a) == 0 || a[len(a)-1] < id {
			break
		}
		if in == where {
			found = append(found, id)
		}
	}
	return found
}

// abreast goes over the numbers of two right lists, rising, each once, and says which of the lists has it.
func abreast(a, b []uint64) iter.Seq2[uint64, int] {
	return func(yield func(uint64, int) bool) {
		for a, b := a, b; len(a) > 0 || len(b) > 0; {
			id, in := least(a, b)
			if !yield(id, in) {
				return
			}
			if in&inFirst != 0 {
				a = behind(a, 1)
			}
			if in&inSecond != 0 {
				b = behind(b, 1)
			}
		}
	}
}

// least gives the least number of two right lists of which one at least has any.
func least(a, b []uint64) (uint64, int) {
	switch {
	case len(b) == 0 || len(a) > 0 && a[0] < b[0]:
		return a[0], inFirst
	case len(a) == 0 || b[0] < a[0]:
		return b[0], inSecond
	}
	return a[0], inBoth
}
