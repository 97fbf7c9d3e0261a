package schema

import (
	"slices"

	"roster/api"
)

// What classes say of a type; the greater word holds.
const (
	mayHave = 1 + iota
	mustHave
)

// Needs: P5.7.
func (s *Schema) Needs(classes []string) (must, may []int, e api.Errno) {
	if s == nil {
		return nil, nil, api.ErrNil
	}
	places, ok := s.withAbove(classes)
	if !ok || !s.goTogether(places) {
		return nil, nil, api.ErrClass
	}
	for t, need := range s.needsOf(places) {
		if need == mustHave {
			must = append(must, t)
		} else {
			may = append(may, t)
		}
	}
	slices.Sort(must)
	slices.Sort(may)
	return must, may, api.OK
}

// withAbove has the places of the classes and of all above them, each once; false, if one is none.
func (s *Schema) withAbove(classes []string) ([]int, bool) {
	seen := make([]bool, len(s.parents))
	var places []int
	for _, name := range classes {
		class := s.Class(name)
		if class == nothing {
			return nil, false
		}
		if seen[class] {
			continue // those above it are there, too
		}
		for _, place := range append([]int{class}, s.parents[class]...) {
			if !seen[place] {
				seen[place] = true
				places = append(places, place)
			}
		}
	}
	return places, true
}

// goTogether tells whether there are structural classes, of each two of which one lies below the other.
func (s *Schema) goTogether(places []int) bool {
	var line []int
	for _, place := range places {
		if s.plain.Classes[place].Kind != api.ClStructural {
			continue
		}
		for _, other := range line {
			if !isOrLiesBelow(s.parents, place, other) && !isOrLiesBelow(s.parents, other, place) {
				return false
			}
		}
		line = append(line, place)
	}
	return len(line) > 0
}

func (s *Schema) needsOf(places []int) map[int]int {
	needs := map[int]int{}
	for _, place := range places {
		for _, name := range s.plain.Classes[place].May {
			t := s.Type(name)
			needs[t] = max(needs[t], mayHave)
		}
		for _, name := range s.plain.Classes[place].Must {
			needs[s.Type(name)] = mustHave
		}
	}
	return needs
}
