package match_test

import (
	"math/rand"
	"strings"
	"testing"

	"roster/api"
	"roster/match"
	"roster/prep"
)

// P7.8: rules for equality.
func TestEqualDoesNotHangOnTheOrder(t *testing.T) {
	s := testSchema(t)
	for _, rule := range equalRules {
		for _, a := range someValues {
			keyA, okA := match.Key(s, rule, a)
			if okA && match.Equal(s, rule, a, a) != api.Yes {
				t.Errorf("%d: %q is not its own equal", rule, a)
			}
			for _, b := range someValues {
				keyB, okB := match.Key(s, rule, b)
				if !okA || !okB {
					continue
				}
				there, back := match.Equal(s, rule, a, b), match.Equal(s, rule, b, a)
				if there != back || (there == api.Yes) != (keyA == keyB) {
					t.Errorf("%d: %q, %q: %v, %v", rule, a, b, there, back)
				}
			}
		}
	}
}

// P7.8: rules for order.
func TestFromIsUpToBackwards(t *testing.T) {
	s := testSchema(t)
	for _, rule := range orderRules {
		for _, a := range someValues {
			for _, b := range someValues {
				keyA, okA := match.Key(s, rule, a)
				keyB, okB := match.Key(s, rule, b)
				if !okA || !okB {
					continue
				}
				from, upTo := match.From(s, rule, a, b), match.UpTo(s, rule, a, b)
				if from != match.UpTo(s, rule, b, a) || upTo != match.From(s, rule, b, a) {
					t.Errorf("%d: %q, %q: not the other one backwards", rule, a, b)
				}
				if both := from == api.Yes && upTo == api.Yes; both != (keyA == keyB) {
					t.Errorf("%d: %q, %q: both is %v", rule, a, b, both)
				}
				if from != api.Yes && upTo != api.Yes {
					t.Errorf("%d: %q, %q: neither", rule, a, b)
				}
			}
		}
	}
}

// P7.8: Same, of each type.
func TestSameDoesNotHangOnTheOrder(t *testing.T) {
	s := testSchema(t)
	for place := range typeCount {
		for _, a := range someValues {
			if !match.Same(s, place, a, a) {
				t.Errorf("%d: %q is not the same as itself", place, a)
			}
			for _, b := range someValues {
				if match.Same(s, place, a, b) != match.Same(s, place, b, a) {
					t.Errorf("%d: %q, %q", place, a, b)
				}
			}
		}
	}
}

// P7.9: middles that are Yes together are Yes each alone.
func TestEachOfTheMiddlesAlone(t *testing.T) {
	s := testSchema(t)
	r := rand.New(rand.NewSource(2))
	seen := 0
	for range 40000 {
		c := somePart(r)
		if len(c.middles) < 2 || match.Part(s, c.rule, c.value, "", c.middles, "") != api.Yes {
			continue
		}
		seen++
		for _, m := range c.middles {
			if got := match.Part(s, c.rule, c.value, "", []string{m}, ""); got != api.Yes {
				t.Errorf("%d: %q has %q, and of %q alone it is %v", c.rule, c.value, c.middles, m, got)
			}
		}
	}
	if seen < 500 {
		t.Errorf("only %d were Yes", seen)
	}
}

// P7.9: a start alone, and likewise an end.
func TestAStartAlone(t *testing.T) {
	s := testSchema(t)
	r := rand.New(rand.NewSource(3))
	seen := 0
	for range 40000 {
		c := somePart(r)
		key, ok := match.Key(s, c.rule, c.value)
		form, _ := formOf(c.rule)
		start, can := prep.Piece(form, api.AtStart, c.start)
		if !ok || !can || c.start == "" {
			continue
		}
		begins := strings.HasPrefix(key, start)
		if got := match.Part(s, c.rule, c.value, c.start, nil, ""); (got == api.Yes) != begins {
			t.Errorf("%d: %q, %q: %v", c.rule, c.value, c.start, got)
		}
		if begins {
			seen++
		}
		end, can := prep.Piece(form, api.AtEnd, c.end)
		if got := match.Part(s, c.rule, c.value, "", nil, c.end); can && (got == api.Yes) != strings.HasSuffix(key, end) {
			t.Errorf("%d: %q, .. %q: %v", c.rule, c.value, c.end, got)
		}
	}
	if seen < 500 {
		t.Errorf("only %d begin so", seen)
	}
}

// P7.9: there is room for all pieces.
func TestThereIsRoomForAllPieces(t *testing.T) {
	s := testSchema(t)
	r := rand.New(rand.NewSource(4))
	seen := 0
	for range 60000 {
		c := somePart(r)
		if match.Part(s, c.rule, c.value, c.start, c.middles, c.end) != api.Yes {
			continue
		}
		seen++
		key, ok := match.Key(s, c.rule, c.value)
		form, _ := formOf(c.rule)
		start, _ := prep.Piece(form, api.AtStart, c.start)
		end, _ := prep.Piece(form, api.AtEnd, c.end)
		all := len(start) + len(end)
		for _, m := range c.middles {
			middle, _ := prep.Piece(form, api.AtMiddle, m)
			all += len(middle)
		}
		if !ok || len(key) < all {
			t.Errorf("%d: %q, %q, %q, %q", c.rule, c.value, c.start, c.middles, c.end)
		}
	}
	if seen < 1000 {
		t.Errorf("only %d were Yes", seen)
	}
}
