package name_test

import (
	"reflect"
	"slices"
	"sync"
	"testing"

	"roster/api"
	"roster/name"
	"roster/schema"
)

// roomy is a name whose lists have room behind their ends, with something in it.
func roomy() api.Name {
	mark := api.Ava{Type: "mark", Value: "mark"}
	avas := func(list ...api.Ava) []api.Ava { return append(list, mark, mark)[:len(list)] }
	rdns := []api.Rdn{
		{Avas: avas(api.Ava{Type: "ou", Value: " B"}, api.Ava{Type: "cn", Value: "a"})},
		{Avas: avas(api.Ava{Type: "sn", Value: "x"}, api.Ava{Type: "photo", Value: ""}, api.Ava{Type: "cn", Value: "s"})},
		{Avas: avas(api.Ava{Type: "s", Value: "cn=a"})},
		{Avas: avas(api.Ava{Type: "mark", Value: ""})},
	}
	return api.Name{Rdns: rdns[:3]}
}

// everything has also what stands behind the lists' ends.
func everything(n api.Name) api.Name {
	var all api.Name
	for _, r := range n.Rdns[:cap(n.Rdns)] {
		all.Rdns = append(all.Rdns, api.Rdn{Avas: slices.Clone(r.Avas[:cap(r.Avas)])})
	}
	return all
}

// spoil writes over all that can be reached from a name.
func spoil(n api.Name) {
	for k := range n.Rdns {
		avas := n.Rdns[k].Avas[:cap(n.Rdns[k].Avas)]
		for m := range avas {
			avas[m] = api.Ava{Type: "spoilt", Value: "spoilt"}
		}
	}
	for k := range n.Rdns[:cap(n.Rdns)] {
		n.Rdns[:cap(n.Rdns)][k] = api.Rdn{}
	}
}

func TestNamesThatAreHandedInAreNotChanged(t *testing.T) {
	s := testSchema(t)
	n := roomy()
	before := everything(n)
	part := n.Rdns[1]
	name.Print(n)
	name.Key(s, n)
	name.Above(n)
	name.Under(part, n)
	name.Under(part, api.Name{Rdns: n.Rdns[:1]})
	if !reflect.DeepEqual(everything(n), before) {
		t.Errorf("%q", everything(n))
	}
}

func TestAnswersAreNewMemory(t *testing.T) {
	s := testSchema(t)
	n := roomy()
	before := everything(n)
	up, _ := name.Above(n)
	under := name.Under(n.Rdns[0], n)
	wantUp, wantUnder := copied(up), copied(under)
	wantKey, _ := name.Key(s, n)
	spoil(up)
	spoil(under)
	if !reflect.DeepEqual(everything(n), before) {
		t.Errorf("%q", everything(n))
	}
	up, _ = name.Above(n)
	under = name.Under(n.Rdns[0], n)
	spoil(n)
	if !same(up, wantUp) || !same(under, wantUnder) {
		t.Errorf("%q, %q", up, under)
	}
	if key, e := name.Key(s, roomy()); key != wantKey || e != api.OK {
		t.Errorf("%q, %v", key, e)
	}
}

func TestListsOfOneAnswerShareNothing(t *testing.T) {
	text := "cn=a+ou=b+sn=c,cn=d,ou=e+cn=f,cn=g,cn=h"
	n := mustParse(t, text)
	avas := []api.Ava{{Type: "cn", Value: "x"}}
	shared := api.Rdn{Avas: avas}
	under := name.Under(shared, api.Name{Rdns: []api.Rdn{shared, shared}})
	up, _ := name.Above(api.Name{Rdns: []api.Rdn{shared, shared, shared}})
	for _, got := range []api.Name{n, under, up} {
		want := copied(got)
		for k := range got.Rdns {
			all := got.Rdns[k].Avas[:cap(got.Rdns[k].Avas)]
			kept := slices.Clone(all)
			for m := range all {
				all[m] = api.Ava{Type: "spoilt"}
			}
			for j := range got.Rdns {
				if j != k && !slices.Equal(got.Rdns[j].Avas, want.Rdns[j].Avas) {
					t.Errorf("part %d shows in part %d", k, j)
				}
			}
			copy(all, kept)
		}
	}
	spoil(n)
	if !same(mustParse(t, text), takenApart(text)) {
		t.Error("a later answer shows what was written into an earlier one")
	}
	steps := name.Steps("1=0:;2=0:;")
	steps[0] = "spoilt"
	if again := name.Steps("1=0:;2=0:;"); !slices.Equal(again, []string{"1=0:;", "2=0:;"}) {
		t.Errorf("%q", again)
	}
}

// R2: what was asked ahead shows in no answer, nor does what is asked at the same time.
func TestAnswersHangOnArgumentsAlone(t *testing.T) {
	s := testSchema(t)
	other, e, _ := schema.New(api.Schema{Types: []api.Type{
		{Oid: "2.5.4.3", Names: []string{"cn"}, Equal: api.RuleExact},
		{Oid: "2.5.4.0", Names: []string{"objectClass"}, Syntax: api.SynOid, Equal: api.RuleOid},
	}})
	if e != api.OK {
		t.Fatal(e)
	}
	n := named(pairs("cn", "A"), pairs("objectClass", "person"))
	var wait sync.WaitGroup
	for range 8 {
		wait.Add(1)
		go func() {
			defer wait.Done()
			for range 200 {
				if key, e := name.Key(s, n); key != "0=7:2.5.6.6;1=1:a;" || e != api.OK {
					t.Errorf("%q, %v", key, e)
				}
				if key, e := name.Key(other, n); key != "1=6:person;0=1:A;" || e != api.OK {
					t.Errorf("%q, %v", key, e)
				}
				name.Parse("cn=a,")
				name.Steps("1=")
			}
		}()
	}
	wait.Wait()
}
