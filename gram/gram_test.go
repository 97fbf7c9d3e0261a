package gram_test

import (
	"math/rand"
	"slices"
	"strings"
	"testing"

	"roster/gram"
)

// The chapter's examples of Grams and Asked.
func TestExamplesOfGrams(t *testing.T) {
	is(t, "none", gram.Grams(""))
	is(t, "a", gram.Grams("a"), 67158785)
	is(t, "ab", gram.Grams("ab"), gramOf('a', 'b', 257), gramOf(256, 'a', 'b'))
	is(t, "aaaa", gram.Grams("aaaa"), gramOf('a', 'a', 'a'), gramOf('a', 'a', 257), gramOf(256, 'a', 'a'))
	is(t, "Asked(a)", gram.Asked([]string{"a"}))
	is(t, "Asked(a, none)", gram.Asked([]string{"a", ""}))
	is(t, "Asked(none, none)", gram.Asked([]string{"", ""}))
	is(t, "Asked(ab, none)", gram.Asked([]string{"ab", ""}), gramOf(256, 'a', 'b'))
	is(t, "Asked(none, abc, none)", gram.Asked([]string{"", "abc", ""}), gramOf('a', 'b', 'c'))
}

func TestGramsOfEdges(t *testing.T) {
	for _, one := range []struct {
		key  string
		want []uint32
	}{
		{"\x00", []uint32{gramOf(256, 0, 257)}},
		{"\xff", []uint32{gramOf(256, 255, 257)}},
		{"\x00\x00", []uint32{gramOf(0, 0, 257), gramOf(256, 0, 0)}},
		{"\x00\x00\x00", []uint32{0, gramOf(0, 0, 257), gramOf(256, 0, 0)}},
		{"\x00\x00\x00\x00", []uint32{0, gramOf(0, 0, 257), gramOf(256, 0, 0)}},
		{"\xff\xff\xff", []uint32{gramOf(255, 255, 255), gramOf(255, 255, 257), gramOf(256, 255, 255)}},
		{"\x00\xff", []uint32{gramOf(0, 255, 257), gramOf(256, 0, 255)}},
		{"\xff\x00", []uint32{gramOf(255, 0, 257), gramOf(256, 255, 0)}},
		{"ba", []uint32{gramOf('b', 'a', 257), gramOf(256, 'b', 'a')}},
		{"é", []uint32{gramOf(0xc3, 0xa9, 257), gramOf(256, 0xc3, 0xa9)}}, // by bytes, not by characters
		{"cab", []uint32{gramOf('a', 'b', 257), gramOf('c', 'a', 'b'), gramOf(256, 'c', 'a')}},
		{"abcabc", []uint32{gramOf('a', 'b', 'c'), gramOf('b', 'c', 'a'), gramOf('b', 'c', 257), gramOf('c', 'a', 'b'), gramOf(256, 'a', 'b')}},
		{"ababab", []uint32{gramOf('a', 'b', 'a'), gramOf('a', 'b', 257), gramOf('b', 'a', 'b'), gramOf(256, 'a', 'b')}},
	} {
		is(t, one.key, gram.Grams(one.key), one.want...)
	}
}

func TestGramsAgainstRows(t *testing.T) {
	for _, key := range texts("\x00a\xff", 7) {
		is(t, key, gram.Grams(key), keyGramsBy(key)...)
	}
	chance := rand.New(rand.NewSource(13))
	for range 3000 {
		key := textBy(chance, 40)
		is(t, key, gram.Grams(key), keyGramsBy(key)...)
	}
	for a := range 256 {
		for _, b := range []int{0, 1, 127, 128, 254, 255} {
			key := string([]byte{byte(a), byte(b)})
			is(t, key, gram.Grams(key), keyGramsBy(key)...)
		}
	}
}

func TestGramsOfLongKeys(t *testing.T) {
	for _, many := range []int{1 << 16, 1<<19 + 1} {
		is(t, "one byte", gram.Grams(strings.Repeat("x", many)), gramOf('x', 'x', 'x'), gramOf('x', 'x', 257), gramOf(256, 'x', 'x'))
		chance, key := rand.New(rand.NewSource(int64(many))), make([]byte, many)
		for at := range key {
			key[at] = byte(chance.Intn(256))
		}
		is(t, "any bytes", gram.Grams(string(key)), keyGramsBy(string(key))...)
	}
}

func TestAskedOfEdges(t *testing.T) {
	abc := gramOf('a', 'b', 'c')
	for what, one := range map[string]struct {
		pieces []string
		want   []uint32
	}{
		"no pieces":             {nil, nil},
		"one, empty":            {[]string{""}, nil},
		"one, long":             {[]string{"abcdef"}, nil},
		"two, one byte each":    {[]string{"a", "b"}, nil},
		"two, the same":         {[]string{"ab", "ab"}, []uint32{gramOf('a', 'b', 257), gramOf(256, 'a', 'b')}},
		"start of one":          {[]string{"a", "bc"}, []uint32{gramOf('b', 'c', 257)}},
		"end of one":            {[]string{"ab", "c"}, []uint32{gramOf(256, 'a', 'b')}},
		"end alone":             {[]string{"", "abc"}, []uint32{abc, gramOf('b', 'c', 257)}},
		"start alone":           {[]string{"abc", ""}, []uint32{abc, gramOf(256, 'a', 'b')}},
		"short middles":         {[]string{"", "a", "ab", "", "bc", ""}, nil},
		"empty middles":         {[]string{"ab", "", "", ""}, []uint32{gramOf(256, 'a', 'b')}},
		"all empty":             {[]string{"", "", "", ""}, nil},
		"middles alone":         {[]string{"", "bcd", "abc", ""}, []uint32{abc, gramOf('b', 'c', 'd')}},
		"one middle twice":      {[]string{"", "abc", "abc", ""}, []uint32{abc}},
		"all share":             {[]string{"abc", "abc", "abc"}, []uint32{abc, gramOf('b', 'c', 257), gramOf(256, 'a', 'b')}},
		"start shares":          {[]string{"xabc", "abcd", ""}, []uint32{abc, gramOf('b', 'c', 'd'), gramOf('x', 'a', 'b'), gramOf(256, 'x', 'a')}},
		"end shares":            {[]string{"", "zabc", "abc"}, []uint32{abc, gramOf('b', 'c', 257), gramOf('z', 'a', 'b')}},
		"nothing runs over":     {[]string{"ab", "cd", "ef", "gh"}, []uint32{gramOf('g', 'h', 257), gramOf(256, 'a', 'b')}},
		"bytes 0":               {[]string{"\x00\x00", "\x00\x00\x00", "\x00\x00"}, []uint32{0, gramOf(0, 0, 257), gramOf(256, 0, 0)}},
		"bytes 255":             {[]string{"\xff\xff", "\xff\xff\xff", "\xff\xff"}, []uint32{gramOf(255, 255, 255), gramOf(255, 255, 257), gramOf(256, 255, 255)}},
		"start and end overlap": {[]string{"ab", "ba"}, []uint32{gramOf('b', 'a', 257), gramOf(256, 'a', 'b')}},
	} {
		is(t, what, gram.Asked(one.pieces), one.want...)
		is(t, what+", the model", askedBy(one.pieces), one.want...)
	}
}

func TestAskedAgainstRows(t *testing.T) {
	short := texts("ab", 3)
	for _, start := range short {
		for _, end := range short {
			for _, pieces := range [][]string{{start, end}, {start, "", end}, {start, "aba", end}, {start, end, start, end}} {
				is(t, strings.Join(pieces, "*"), gram.Asked(pieces), askedBy(pieces)...)
			}
		}
	}
	chance := rand.New(rand.NewSource(130))
	for range 5000 {
		pieces := make([]string, chance.Intn(7))
		for at := range pieces {
			pieces[at] = textBy(chance, 6)
		}
		is(t, strings.Join(pieces, "*"), gram.Asked(pieces), askedBy(pieces)...)
	}
	many := slices.Repeat([]string{"", "a", "ab", "abc", "abcd"}, 20000)
	is(t, "many pieces", gram.Asked(many), askedBy(many)...)
	long := []string{strings.Repeat("ab", 1<<18), strings.Repeat("ba", 1<<18), "z"}
	is(t, "long pieces", gram.Asked(long), askedBy(long)...)
}
