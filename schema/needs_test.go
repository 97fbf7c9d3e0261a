package schema_test

import (
	"fmt"
	"math/rand"
	"slices"
	"strings"
	"testing"

	"roster/api"
	"roster/schema"
)

func checkNeeds(t *testing.T, x *schema.Schema, s api.Schema, list []string) bool {
	t.Helper()
	wantMust, wantMay, ok := modelNeeds(s, list)
	wantE := api.OK
	if !ok {
		wantMust, wantMay, wantE = nil, nil, api.ErrClass
	}
	must, may, e := x.Needs(list)
	if !slices.Equal(must, wantMust) || !slices.Equal(may, wantMay) || e != wantE {
		t.Errorf("Needs(%s) = %v, %v, %v, want %v, %v, %v", brief(list), must, may, e, wantMust, wantMay, wantE)
	}
	return ok
}

func TestNeedsExamples(t *testing.T) {
	x := mustMake(t, chapterSchema)
	if must, may, e := x.Needs([]string{"person"}); !slices.Equal(must, []int{0, 2}) || !slices.Equal(may, []int{1}) || e != api.OK {
		t.Errorf("%v %v %v", must, may, e)
	}
	for _, list := range [][]string{{"top"}, {"person", "nobody"}} {
		if must, may, e := x.Needs(list); must != nil || may != nil || e != api.ErrClass {
			t.Errorf("%v: %v %v %v", list, must, may, e)
		}
	}
}

// All lists of up to four classes.
func TestNeedsOfAllLists(t *testing.T) {
	s := mustParse(t, wideSchema)
	x := mustNew(t, s)
	names := []string{"MAN", "1.2", "thing", "top", "Holder", "place", "helper", "twin", "lone", "nobody", ""}
	taken := 0
	var all func(list []string, more int)
	all = func(list []string, more int) {
		if checkNeeds(t, x, s, list) {
			taken++
		}
		if more == 0 {
			return
		}
		for _, name := range names {
			all(append(list[:len(list):len(list)], name), more-1)
		}
	}
	all(nil, 3)
	if taken < 100 {
		t.Errorf("only %d lists are taken", taken)
	}
	checkNeeds(t, x, s, strings.Fields("twin holder lone"))
	checkNeeds(t, x, s, strings.Fields("top holder being man twin top twin holder"))
	checkNeeds(t, x, s, slices.Repeat([]string{"twin", "TOP", "1.3"}, 5000))
	checkNeeds(t, x, s, append(slices.Repeat([]string{"twin"}, 5000), "nobody"))
}

// A structural class that stands above an auxiliary one counts, too.
func TestNeedsOfWhatLiesAbove(t *testing.T) {
	x := mustMake(t, wideSchema)
	if must, may, e := x.Needs([]string{"helper"}); !slices.Equal(must, []int{2}) || !slices.Equal(may, []int{4}) || e != api.OK {
		t.Errorf("helper: %v %v %v", must, may, e)
	}
	if _, _, e := x.Needs([]string{"helper", "man"}); e != api.ErrClass {
		t.Errorf("helper, man: %v", e)
	}
	if must, may, e := x.Needs([]string{"twin"}); !slices.Equal(must, []int{0, 2, 3, 6}) || !slices.Equal(may, []int{1, 5}) || e != api.OK {
		t.Errorf("twin: %v %v %v", must, may, e)
	}
}

// Two structural classes above one that don't lie below one another.
func TestNeedsOfTwoAboveOne(t *testing.T) {
	s := withClasses(api.Class{Oid: "1.1", Names: []string{"a"}, Kind: api.ClStructural}, api.Class{Oid: "1.2", Names: []string{"b"}, Kind: api.ClStructural},
		api.Class{Oid: "1.3", Names: []string{"c"}, Kind: api.ClStructural, Sups: []string{"a", "b"}}, api.Class{Oid: "1.4", Names: []string{"d"}, Kind: api.ClAbstract, Sups: []string{"a", "b"}})
	x := mustNew(t, s)
	for _, list := range [][]string{{"a"}, {"b"}, {"c"}, {"d"}, {"a", "b"}} {
		if ok := checkNeeds(t, x, s, list); ok != (len(list) == 1 && list[0] < "c") {
			t.Errorf("%v: %v", list, ok)
		}
	}
}

func TestNeedsOfMixedSchemas(t *testing.T) {
	chance := rand.New(rand.NewSource(7))
	taken := 0
	for range 3000 {
		s := api.Schema{Types: []api.Type{objectClass()}}
		for n := range 5 {
			s.Types = append(s.Types, numbered(n, ""))
		}
		for n := range 7 {
			c := numberedClass(n)
			c.Kind = int8(chance.Intn(3))
			for k := range n {
				if chance.Intn(4) == 0 {
					c.Sups = append(c.Sups, fmt.Sprintf("C%d", k))
				}
			}
			for range chance.Intn(3) {
				c.Must, c.May = append(c.Must, fmt.Sprintf("T%d", chance.Intn(5))), append(c.May, fmt.Sprintf("1.%d", chance.Intn(5)))
			}
			s.Classes = append(s.Classes, c)
		}
		x := mustNew(t, s)
		for range 6 {
			var list []string
			for range 1 + chance.Intn(4) {
				list = append(list, fmt.Sprintf("c%d", chance.Intn(7)))
			}
			if checkNeeds(t, x, s, list) {
				taken++
			}
		}
	}
	if taken < 3000 {
		t.Errorf("only %d lists are taken", taken)
	}
}

// The order in which a map is gone through would show in long lists.
func TestNeedsRise(t *testing.T) {
	s := withTypes()
	c := api.Class{Oid: "1.0", Names: []string{"all"}, Kind: api.ClStructural}
	for n := 1; n < api.MaxTypes; n++ {
		s.Types = append(s.Types, numbered(n, ""))
		if n%2 == 0 {
			c.Must = append([]string{s.Types[n].Oid}, c.Must...)
		} else {
			c.May = append([]string{s.Types[n].Oid}, c.May...)
		}
	}
	s.Classes = []api.Class{c}
	x := mustNew(t, s)
	must, may, e := x.Needs([]string{"all"})
	if len(must) != 511 || len(may) != 512 || !slices.IsSorted(must) || !slices.IsSorted(may) || e != api.OK {
		t.Errorf("%d %d %v", len(must), len(may), e)
	}
	for _, n := range must {
		if n%2 != 0 || n == 0 {
			t.Errorf("must has %d", n)
		}
	}
}
