package view

import (
	"slices"

	"roster/api"
	"roster/schema"
)

// wanter is what tells of a description whether it is wanted.
func wanter(s *schema.Schema, wanted []string) func(desc string) bool {
	if len(wanted) == 0 || slices.Contains(wanted, "*") {
		return func(string) bool { return true }
	}
	words := unlike(s, wanted)
	return func(desc string) bool {
		return slices.ContainsFunc(words, func(word string) bool { return s.Covers(word, desc) })
	}
}

// unlike leaves out the words that want nothing, and of those that want the same all but one: each word that stays is held against every attribute.
func unlike(s *schema.Schema, wanted []string) []string {
	var words []string
	for _, word := range wanted {
		if canon, wrong := s.Canon(word); wrong == api.OK {
			words = append(words, canon)
		}
	}
	slices.Sort(words)
	return slices.Compact(words)
}

func told(attr api.Attr, only bool) api.Attr {
	if only {
		return api.Attr{Desc: attr.Desc}
	}
	return api.Attr{Desc: attr.Desc, Values: slices.Clone(attr.Values)}
}
