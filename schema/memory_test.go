package schema_test

import (
	"math/rand"
	"slices"
	"strings"
	"sync"
	"testing"

	"roster/api"
	"roster/schema"
)

// roomy has room behind the end of each list, with words in it that must stay.
func roomy(s api.Schema) api.Schema {
	list := func(words []string) []string {
		more := append(slices.Clone(words), "room1", "room2", "room3")
		return more[:len(words)]
	}
	types := append(slices.Clone(s.Types), api.Type{Oid: "room"}, api.Type{Oid: "room"})
	s.Types = types[:len(s.Types)]
	classes := append(slices.Clone(s.Classes), api.Class{Oid: "room"}, api.Class{Oid: "room"})
	s.Classes = classes[:len(s.Classes)]
	for k := range s.Types {
		s.Types[k].Names = list(s.Types[k].Names)
	}
	for k, c := range s.Classes {
		s.Classes[k].Names, s.Classes[k].Sups, s.Classes[k].Must, s.Classes[k].May = list(c.Names), list(c.Sups), list(c.Must), list(c.May)
	}
	return s
}

func hasRoom(s api.Schema) bool {
	whole := func(words []string) bool {
		return slices.Equal(words[len(words):len(words)+3], []string{"room1", "room2", "room3"})
	}
	ok := s.Types[:len(s.Types)+1][len(s.Types)].Oid == "room" && s.Classes[:len(s.Classes)+1][len(s.Classes)].Oid == "room"
	for _, x := range s.Types {
		ok = ok && whole(x.Names)
	}
	for _, c := range s.Classes {
		ok = ok && whole(c.Names) && whole(c.Sups) && whole(c.Must) && whole(c.May)
	}
	return ok
}

// spoil writes over all that the lists of a schema hold, the room behind them too.
func spoil(s api.Schema) {
	words := func(list []string) {
		list = list[:cap(list)]
		for k := range list {
			list[k] = "spoilt"
		}
	}
	for _, x := range s.Types[:cap(s.Types)] {
		words(x.Names)
	}
	for _, c := range s.Classes[:cap(s.Classes)] {
		for _, list := range [][]string{c.Names, c.Sups, c.Must, c.May} {
			words(list)
		}
	}
	for k := range s.Types[:cap(s.Types)] {
		s.Types[:cap(s.Types)][k] = api.Type{Oid: "9.9", Names: []string{"spoilt"}, Syntax: 5, Equal: 9, Sup: "spoilt"}
	}
	for k := range s.Classes[:cap(s.Classes)] {
		s.Classes[:cap(s.Classes)][k] = api.Class{Oid: "9.9", Kind: 2}
	}
}

// answers is all that a schema tells, as a text.
func answers(x *schema.Schema) string {
	var b strings.Builder
	b.WriteString(brief(x.Plain()))
	text, _ := schema.Print(x.Plain())
	b.WriteString(text)
	for t := range 8 {
		b.WriteString(brief(x.Full(t)) + brief(x.Below(t)))
	}
	for _, w := range []string{"cn", "low", "spoilt", "9.9", "person", "1.5", "high", "being", "mid", "man"} {
		b.WriteString(brief([]int{x.Type(w), x.Class(w)}))
		k, options, e := x.Desc(w + ";b;a")
		b.WriteString(brief(k) + brief(options) + brief(e))
		c, e := x.Canon(w + ";A")
		must, may, f := x.Needs([]string{w})
		b.WriteString(c + brief(e) + brief(must) + brief(may) + brief(f) + brief(x.Covers("high", w)))
	}
	return b.String()
}

func TestArgumentsAreNeitherChangedNorKept(t *testing.T) {
	m := mixed{rand.New(rand.NewSource(17))}
	list := []api.Schema{mustParse(t, chapterSchema), mustParse(t, wideSchema)}
	for range 200 {
		list = append(list, m.schema())
	}
	for _, s := range list {
		given := roomy(s)
		schema.Print(given)
		x, e, _ := schema.New(given)
		if !sameSchema(given, s) || !hasRoom(given) {
			t.Fatalf("%s was changed", brief(s))
		}
		if e != api.OK {
			continue
		}
		before := answers(x)
		spoil(given)
		if answers(x) != before {
			t.Errorf("%s is kept", brief(s))
		}
	}
	x := mustMake(t, wideSchema)
	classes := append(make([]string, 0, 8), "man", "holder", "room1", "room2")
	given := classes[:2]
	if _, _, e := x.Needs(given); e != api.OK || !slices.Equal(classes, []string{"man", "holder", "room1", "room2"}) {
		t.Errorf("%v, %v", classes, e)
	}
}

func spoilInts(list []int) {
	list = list[:cap(list)]
	for k := range list {
		list[k] = 99
	}
}

func TestAnswersAreNewMemory(t *testing.T) {
	for _, text := range []string{chapterSchema, wideSchema} {
		x := mustMake(t, text)
		before := answers(x)
		spoil(x.Plain())
		for k := range 8 {
			names := x.Full(k).Names
			for n := range names[:cap(names)] {
				names[:cap(names)][n] = "spoilt"
			}
			spoilInts(x.Below(k))
		}
		for _, w := range []string{"person", "man", "twin", "helper"} {
			must, may, _ := x.Needs([]string{w})
			spoilInts(must[:cap(must)])
			spoilInts(may[:cap(may)])
		}
		_, options, _ := x.Desc("high;b;a")
		for k := range options[:cap(options)] {
			options[:cap(options)][k] = "spoilt"
		}
		if answers(x) != before {
			t.Errorf("what was written into answers shows")
		}
		s := mustParse(t, text)
		spoil(s)
		if again := mustParse(t, text); len(again.Types) == 0 || again.Types[0].Oid == "9.9" {
			t.Errorf("%+v", again)
		}
	}
}

// No two lists of one answer share memory: each is spoilt alone.
func TestListsOfOneAnswerAreApart(t *testing.T) {
	x := mustMake(t, wideSchema)
	must, may, _ := x.Needs([]string{"twin"})
	copyOfMay := slices.Clone(may)
	spoilInts(must[:cap(must)])
	if !slices.Equal(may, copyOfMay) {
		t.Errorf("may is %v", may)
	}
	for _, s := range []api.Schema{x.Plain(), mustParse(t, wideSchema)} {
		want := mustParse(t, wideSchema)
		for k := range s.Classes {
			for _, list := range []*[]string{&s.Classes[k].Names, &s.Classes[k].Sups, &s.Classes[k].Must, &s.Classes[k].May} {
				kept := slices.Clone(*list)
				for n := range (*list)[:cap(*list)] {
					(*list)[:cap(*list)][n] = "spoilt"
				}
				*list = kept
				if !sameSchema(s, want) {
					t.Fatalf("a list of class %d is shared", k)
				}
			}
		}
		for k := range s.Types {
			kept := slices.Clone(s.Types[k].Names)
			names := s.Types[k].Names
			for n := range names[:cap(names)] {
				names[:cap(names)][n] = "spoilt"
			}
			s.Types[k].Names = kept
			if !sameSchema(s, want) {
				t.Fatalf("the names of type %d are shared", k)
			}
		}
	}
}

func TestManyMayAskAtOnce(t *testing.T) {
	x := mustMake(t, wideSchema)
	want := answers(x)
	var group sync.WaitGroup
	for range 8 {
		group.Go(func() {
			for range 20 {
				if answers(x) != want {
					t.Error("another answer")
				}
			}
		})
	}
	group.Wait()
}
