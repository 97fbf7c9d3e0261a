package view_test

import (
	"slices"
	"testing"

	"roster/api"
	"roster/schema"
	"roster/view"
)

// P23.1 and P23.2 by chance, held against asking each attribute and each word by itself.
func TestByChance(t *testing.T) {
	s := testSchema(t)
	told, left, refused := 0, 0, 0
	for seed := range int64(10000) {
		d := diceOf(seed)
		r, words, only := d.record(), d.words(), d.Intn(3) == 0
		text, attrs, e := plainShow(s, r, words, only)
		got, wrong := view.Show(s, r, words, only)
		if wrong != e || got.Name != text || !slices.Equal(written(got.Attrs), attrs) {
			t.Fatalf("with the seed %d of %s, wanted %q, only %t, %s is told, %v, not %q %q, %v", seed, brief(r), words, only, brief(got), wrong, text, attrs, e)
		}
		if e != api.OK {
			refused++
			continue
		}
		told += len(attrs)
		left += len(r.Entry.Attrs) - len(attrs)
		for _, attr := range r.Entry.Attrs {
			wants(t, s, words, plainWants(s, words, attr.Desc), attr.Desc)
		}
	}
	if told < 3000 || left < 3000 || refused < 100 {
		t.Errorf("%d attributes were told, %d were not, %d records were refused", told, left, refused)
	}
}

// P23.3: more words want no less, but for the first one, behind which it is not all that is wanted.
func TestMoreWords(t *testing.T) {
	s := testSchema(t)
	for seed := range int64(3000) {
		d := diceOf(seed + 20000)
		words := append(d.words(), d.desc())
		more := slices.Insert(slices.Clone(words), d.Intn(len(words)+1), d.words()...)
		for range 10 {
			if desc := d.desc(); view.Wants(s, words, desc) && !view.Wants(s, more, desc) {
				t.Fatalf("%q wants %q, %q does not", words, desc, more)
			}
		}
	}
}

// P23.3: what is told with only has the descriptions of what is told without.
func TestOnly(t *testing.T) {
	s := testSchema(t)
	for seed := range int64(3000) {
		d := diceOf(seed + 30000)
		r, words := d.record(), d.words()
		whole, e := view.Show(s, r, words, false)
		only, wrong := view.Show(s, r, words, true)
		if e != wrong || whole.Name != only.Name || !slices.Equal(bare(written(whole.Attrs)), written(only.Attrs)) {
			t.Fatalf("of %s, wanted %q, %s is told, %v, and with only %s, %v", brief(r), words, brief(whole), e, brief(only), wrong)
		}
	}
}

// P23.3: a word twice, or by another of its type's names, makes no difference, nor does the order of the words.
func TestWordsAlike(t *testing.T) {
	s := testSchema(t)
	for seed := range int64(3000) {
		d := diceOf(seed + 40000)
		r, words := d.record(), d.words()
		var alike []string
		for _, word := range words {
			alike = append(alike, slices.Repeat([]string{word, d.otherwise(s, word)}, 1+d.Intn(3))...)
		}
		d.Shuffle(len(alike), func(i, j int) { alike[i], alike[j] = alike[j], alike[i] })
		want, e := view.Show(s, r, words, false)
		got, wrong := view.Show(s, r, alike, false)
		if e != wrong || want.Name != got.Name || !slices.Equal(written(want.Attrs), written(got.Attrs)) {
			t.Fatalf("of %s, wanted %q, %s is told, %v, and wanted %q %s, %v", brief(r), words, brief(want), e, alike, brief(got), wrong)
		}
	}
}

// otherwise is the same description by any of its type's names or its Oid, the options in any order.
func (d dice) otherwise(s *schema.Schema, word string) string {
	place, options, e := s.Desc(word)
	if e != api.OK {
		return word
	}
	full := s.Full(place)
	out := oneOf(d, append(slices.Clone(full.Names), full.Oid))
	for _, at := range d.Perm(len(options)) {
		out += ";" + options[at]
	}
	return out
}
