package schema

import (
	"slices"
	"strings"

	"roster/api"
)

// Desc: P5.6.
func (s *Schema) Desc(d string) (t int, options []string, e api.Errno) {
	if s == nil {
		return 0, nil, api.ErrNil
	}
	if len(d) > api.MaxText {
		return 0, nil, api.ErrLong
	}
	word, rest, some := strings.Cut(d, ";")
	if !isWordOrOid(word) || some && !areOptions(rest) {
		return 0, nil, api.ErrName
	}
	if some {
		options = unlike(rest)
	}
	if len(options) > api.MaxOptions {
		return 0, nil, api.ErrLong
	}
	t = s.Type(word)
	if t == nothing {
		return 0, nil, api.ErrType
	}
	if s.canonSize(t, options) > api.MaxText {
		return 0, nil, api.ErrLong
	}
	return t, options, api.OK
}

func areOptions(rest string) bool {
	for option := range strings.SplitSeq(rest, ";") {
		if !isRow(option) {
			return false
		}
	}
	return true
}

// unlike has the options in small letters, rising, each once; of more than there may be just as many as tell that.
func unlike(rest string) []string {
	var options []string
	for option := range strings.SplitSeq(small(rest), ";") {
		if len(options) <= api.MaxOptions && !slices.Contains(options, option) {
			options = append(options, option)
		}
	}
	slices.Sort(options)
	return options
}

// Canon: P5.6.
func (s *Schema) Canon(d string) (string, api.Errno) {
	t, options, e := s.Desc(d)
	if e != api.OK {
		return "", e
	}
	return s.canon(t, options), api.OK
}

func (s *Schema) canonSize(t int, options []string) int {
	size := len(s.plain.Types[t].Names[0])
	for _, option := range options {
		size += len(";") + len(option)
	}
	return size
}

func (s *Schema) canon(t int, options []string) string {
	return strings.Join(append([]string{s.plain.Types[t].Names[0]}, options...), ";")
}

// Covers: P5.6.
func (s *Schema) Covers(d, e string) bool {
	high, fewer, wrong := s.Desc(d)
	low, more, wrongToo := s.Desc(e)
	if wrong != api.OK || wrongToo != api.OK {
		return false
	}
	return isOrLiesBelow(s.above, low, high) && all(fewer, func(option string) bool { return slices.Contains(more, option) })
}
