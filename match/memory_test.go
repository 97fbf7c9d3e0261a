package match_test

import (
	"reflect"
	"slices"
	"sync"
	"testing"

	"roster/api"
	"roster/match"
)

// R1: a nil Schema.
func TestNilSchema(t *testing.T) {
	for _, rule := range allNumbers() {
		for _, value := range []string{"", "a", "1", "cn=a", "TRUE"} {
			checkNoKey(t, nil, rule, value)
			for call, got := range []api.Truth{
				match.Equal(nil, rule, value, value),
				match.From(nil, rule, value, value),
				match.UpTo(nil, rule, value, value),
				match.Part(nil, rule, value, "", nil, ""),
				match.Part(nil, rule, value, value, []string{""}, value),
			} {
				if got != api.Unknown {
					t.Errorf("call %d of %d, %q: %v", call, rule, value, got)
				}
			}
		}
	}
	for _, place := range append([]int{objectClass, cn, number, seeAlso, bareBytes}, notPlaces...) {
		for _, value := range []string{"", "a", "1", "cn=a"} {
			if match.Fits(nil, place, value) || match.Same(nil, place, value, value) || match.Like(nil, place, value, value) != api.Unknown {
				t.Errorf("%d, %q", place, value)
			}
		}
	}
}

// R3: what is handed in is not changed, nor is the room behind its end.
func TestMiddlesAreNotChanged(t *testing.T) {
	s := testSchema(t)
	all := []string{" B ", "A", "", "\xff", "mark", "mark"}
	before := slices.Clone(all)
	for many := range 5 {
		for _, rule := range allNumbers() {
			match.Part(s, rule, "a  b a", "A ", all[:many], " a")
		}
	}
	if !slices.Equal(all, before) {
		t.Errorf("%q", all)
	}
}

// R2, R3: what was handed in ahead shows in no later answer, and the schema stays as it was.
func TestNothingIsKept(t *testing.T) {
	s := testSchema(t)
	middles := []string{"b"}
	if got := match.Part(s, api.RuleFoldPart, "abc", "", middles, ""); got != api.Yes {
		t.Errorf("%v", got)
	}
	middles[0] = "x"
	if got := match.Part(s, api.RuleFoldPart, "abc", "", middles, ""); got != api.No {
		t.Errorf("%v", got)
	}
	if got := match.Part(s, api.RuleFoldPart, "abc", "", nil, ""); got != api.Yes {
		t.Errorf("%v", got)
	}
	for _, rule := range equalRules {
		for _, value := range someValues {
			first, had := match.Key(s, rule, value)
			match.Equal(s, rule, "a", value)
			if again, has := match.Key(s, rule, value); again != first || has != had {
				t.Errorf("%d, %q: %q and %q", rule, value, first, again)
			}
		}
	}
	if !reflect.DeepEqual(s.Plain(), plainSchema()) {
		t.Error("the schema is another one")
	}
}

// One schema is asked by many at once.
func TestManyAskAtOnce(t *testing.T) {
	s := testSchema(t)
	middles := []string{"a", "b"}
	var all sync.WaitGroup
	for range 8 {
		all.Go(func() {
			for _, value := range someValues {
				for _, rule := range equalRules {
					if got, want := match.Equal(s, rule, value, "Person"), modelEqual(s, rule, value, "Person"); got != want {
						t.Errorf("Equal(%d, %q) = %v", rule, value, got)
					}
				}
				if got, want := match.Part(s, api.RuleFoldPart, value, "", middles, ""), modelPart(s, api.RuleFoldPart, value, "", middles, ""); got != want {
					t.Errorf("Part(%q) = %v", value, got)
				}
			}
		})
	}
	all.Wait()
}
