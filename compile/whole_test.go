package compile_test

import (
	"fmt"
	"math"
	"slices"
	"strconv"
	"strings"
	"testing"

	"roster/api"
	"roster/code"
	"roster/compile"
	"roster/filter"
	"roster/store"
)

func checkWholeRefused(t *testing.T, st *store.Store, f api.Filter, want api.Errno) {
	t.Helper()
	for _, guess := range []func(api.Fetch) float64{nil, fewOnes} {
		if got, e := compile.Whole(st, f, guess); e != want || !isSame(got, api.Program{}) {
			t.Errorf("Whole(%s) is %s, %v; want %v", shownFilter(f), shown(got), e, want)
		}
	}
}

// The chapter's examples of Whole.
func TestWholeExamples(t *testing.T) {
	for _, f := range []api.Filter{void, not(void), equal("photo", "x"), equal("age", "x"), within(api.FOr, 9, void)} {
		checkWholeIs(t, people(t), f, nil, nothingAtAll)
	}
	checkWholeRefused(t, nil, ann, api.ErrNil)
}

// P19.2: a store that is not there, ahead of what is wrong with the filter; what shape.Bare refuses.
func TestWholeRefuses(t *testing.T) {
	var none *store.Store
	stores := []*store.Store{people(t), storeOf(t, plainSchema())}
	for want, filters := range refusedFilters() {
		for _, f := range filters {
			checkWholeRefused(t, none, f, api.ErrNil)
			checkWholeRefused(t, store.New(nil), f, api.ErrNil)
			for _, st := range stores {
				checkWholeRefused(t, st, f, want)
			}
		}
	}
	// A filter may not be, though nothing would be left of it.
	checkWholeRefused(t, people(t), and(void, or()), api.ErrFilter)
	// None of it asks guess.
	asked := func(api.Fetch) float64 { t.Error("guess was asked"); return 0 }
	compile.Whole(nil, ann, asked)
	compile.Whole(people(t), and(ann, or()), asked)
	compile.Whole(people(t), void, asked)
}

// P19.2: filters of which nothing is left, and such of which something is.
func TestWholeLeft(t *testing.T) {
	st := people(t)
	for _, f := range []api.Filter{
		void, not(void), and(void), or(void), and(ann, void), and(void, ann), and(ann, not(void)), and(ann, bob, or(void, not(void))), or(void, and(ann, void)), or(and(void, ann), and(bob, void)), not(or(ann, void)), not(not(and(ann, void))), within(api.FNot, 63, void),
	} {
		checkWholeIs(t, st, f, nil, nothingAtAll)
		checkWholeIs(t, storeOf(t, plainSchema()), f, manyGuesses, nothingAtAll)
	}
	fetched := program(consts(keyed("ann")), get(0))
	for _, f := range []api.Filter{ann, or(ann, void), or(void, not(void), ann), not(not(ann)), and(ann, ann), and(or(ann)), or(and(ann, or(ann, void)), and(bob, void)), not(or(not(ann))), within(api.FNot, 62, ann), not(and(not(ann), void))} {
		checkWholeIs(t, st, f, nil, fetched)
		checkWholeIs(t, st, f, manyGuesses, fetched)
	}
}

// P19.2: the plan is one of the normal form of what is left.
func TestWholeOrder(t *testing.T) {
	st := people(t)
	fetches := func(names ...string) []api.Const {
		var out []api.Const
		for _, n := range names {
			out = append(out, consts(keyed(n))...)
		}
		return out
	}
	// Kids rise by Cmp; of equal guesses they are taken so.
	want := program(fetches("ann", "bob", "eve"), get(0), get(1), opAnd, get(2), opAnd)
	for _, f := range []api.Filter{and(ann, bob, eve), and(eve, bob, ann), and(bob, and(eve, ann), bob)} {
		checkWholeIs(t, st, f, fewOnes, want)
	}
	checkWholeIs(t, st, or(eve, bob, ann), fewOnes, program(fetches("ann", "bob", "eve"), get(0), get(1), opOr, get(2), opOr))
	// Not of Or is And of Nots, which is not direct: one test of it.
	checkWholeIs(t, st, not(or(ann, bob)), nil, program(consts(and(not(ann), not(bob))), opAll, tested(0)))
	checkWholeIs(t, st, not(ann), nil, program(fetches("ann"), opAll, get(0), opLess))
	checkWholeIs(t, st, and(named, ann), nil, program(consts(keyed("ann"), named), get(0), tested(1)))
	checkWholeIs(t, st, annX, nil, program(consts(keyed("ann"), annX), get(0), tested(1)))
	checkWholeIs(t, st, named, nil, program(consts(named), opAll, tested(0)))
	checkWholeIs(t, st, or(named, ann), nil, program(consts(or(ann, named)), opAll, tested(0)))
	checkWholeIs(t, st, and(ann, not(bob)), nil, program(consts(keyed("ann"), not(bob)), get(0), tested(1)))
	part := pieces("cn", "a*n")
	checkWholeIs(t, st, part, nil, program(consts(part), opAll, tested(0)))
	part = pieces("cn", "ann*")
	checkWholeIs(t, st, part, nil, program(consts(fetch(api.GetPart, tCn, "", "ann", ""), part), get(0), tested(1)))
}

// P19.2: guess is asked, t's Count if it is nil, and t's Len is all.
func TestWholeGuesses(t *testing.T) {
	var entries []api.Entry
	for i := range 50 {
		words := "cn|few" + strconv.Itoa(i%10)
		if i < 41 {
			words += "|many"
		}
		if i < 3 {
			words += "|three"
		}
		if i < 40 {
			words += "|forty"
		}
		entries = append(entries, entry(words, "age|"+strconv.Itoa(i)))
	}
	st := storeOf(t, plainSchema(), entries...)
	three, forty, many := equal("cn", "three"), equal("cn", "forty"), equal("cn", "many")
	// 40 are at most 8 times 3 and 16 more, 41 are not.
	checkWholeIs(t, st, and(forty, three), nil, program(consts(keyed("three"), keyed("forty")), get(0), get(1), opAnd))
	checkWholeIs(t, st, and(many, three), nil, program(consts(keyed("three"), many), get(0), tested(1)))
	// The sum may be all there are, and not one more.
	checkWholeIs(t, st, or(many, three), nil, program(consts(keyed("many"), keyed("three")), get(0), get(1), opOr))
	few := func(i int) api.Filter { return equal("cn", "few"+strconv.Itoa(i)) }
	checkWholeIs(t, st, or(forty, few(1), few(2)), nil, program(consts(keyed("few1"), keyed("few2"), keyed("forty")), get(0), get(1), opOr, get(2), opOr))
	tooMany := or(few(1), few(2), many)
	checkWholeIs(t, st, tooMany, nil, program(consts(tooMany), opAll, tested(0)))
	// The guesses that are handed in count, not t's Count.
	told := map[string]float64{"three": 50, "many": 4}
	guess := func(q api.Fetch) float64 { return told[q.Key] }
	checkWholeIs(t, st, and(many, three), guess, program(consts(keyed("many"), three), get(0), tested(1)))
	told["three"] = 48
	checkWholeIs(t, st, and(many, three), guess, program(consts(keyed("many"), keyed("three")), get(0), get(1), opAnd))
	told["three"] = 46
	checkWholeIs(t, st, or(many, three), guess, program(consts(keyed("many"), keyed("three")), get(0), get(1), opOr))
	told["three"] = 47
	checkWholeIs(t, st, or(many, three), guess, program(consts(or(many, three)), opAll, tested(0)))
	// What changes in the store changes what is guessed.
	if e := st.Delete(3); e != api.OK {
		t.Fatal(e)
	}
	checkWholeIs(t, st, and(many, three), nil, program(consts(keyed("three"), many), get(0), tested(1)))
	checkWholeIs(t, st, or(many, three), nil, program(consts(keyed("many"), keyed("three")), get(0), get(1), opOr))
	if e, _ := st.Modify(7, []api.Mod{{Op: api.ModDelete, Attr: api.Attr{Desc: "cn", Values: []string{"many"}}}}); e != api.OK {
		t.Fatal(e)
	}
	// Now 2 and 39: within 32 they are not.
	checkWholeIs(t, st, and(many, three), nil, program(consts(keyed("three"), many), get(0), tested(1)))
	checkWholeIs(t, st, and(equal("cn", "few3"), many), nil, program(consts(keyed("few3"), keyed("many")), get(0), get(1), opAnd))
}

// Guesses that are no numbers, infinite, below 0, the same for all: they count as P17 says, and find the same.
func TestWholeStrangeGuesses(t *testing.T) {
	st := people(t)
	filters := []api.Filter{ann, not(ann), and(ann, bob), and(bob, ann, eve, named), or(ann, bob), or(ann, and(bob, eve)), and(or(ann, bob), not(eve), annX), or(not(ann), bob), and(have("age"), pieces("cn", "ann*"), or(annX, bob)), not(and(ann, or(bob, not(eve))))}
	for _, guess := range someGuesses {
		for _, f := range filters {
			checkWhole(t, st, f, constantly(guess))
			for _, other := range someGuesses {
				checkWhole(t, st, f, func(q api.Fetch) float64 {
					if q.Key == "ann" {
						return guess
					}
					return other
				})
			}
		}
	}
	inf, nan := math.Inf(1), math.NaN()
	for _, x := range []struct {
		ann, bob float64
		code     []api.Instr
	}{
		{nan, 5, []api.Instr{get(0), tested(1)}}, {5, nan, []api.Instr{get(0), tested(1)}}, {-1, 5, []api.Instr{get(0), tested(1)}}, {inf, 5, []api.Instr{get(0), tested(1)}}, {nan, nan, []api.Instr{get(0), get(1), opAnd}}, {inf, -7, []api.Instr{get(0), get(1), opAnd}}, {0, 16, []api.Instr{get(0), get(1), opAnd}}, {0, 17, []api.Instr{get(0), tested(1)}},
	} {
		got := checkWhole(t, st, and(ann, bob), func(q api.Fetch) float64 { return map[string]float64{"ann": x.ann, "bob": x.bob}[q.Key] })
		if !slices.Equal(got.Code, x.code) {
			t.Errorf("%v and %v: %s", x.ann, x.bob, shown(got))
		}
	}
	// An Or of which one is infinite is tested, where all is a number.
	checkWholeIs(t, st, or(ann, bob), constantly(nan), program(consts(or(ann, bob)), opAll, tested(0)))
	// Guesses that answer otherwise each time: a plan that some of the answers make, that finds the same.
	d := diceOf(1)
	for range 200 {
		for _, f := range filters {
			got, e := compile.Whole(st, f, func(api.Fetch) float64 { return oneOf(d, someGuesses...) })
			if e != api.OK {
				t.Fatalf("%s: %v", shownFilter(f), e)
			}
			checkSmall(t, st, f, got)
			checkFinds(t, st, f, got)
		}
	}
}

// Stores without indexes, with some of them, without records.
func TestWholeStores(t *testing.T) {
	bare := plainSchema()
	for i := range bare.Types {
		bare.Types[i].Index = 0
	}
	some := plainSchema()
	some.Types[tCn].Index, some.Types[tAge].Index = api.IxPart, api.IxOrder
	few := plainSchema()
	few.Types = few.Types[:tSn]
	few.Classes[0].May = []string{"name", "cn"}
	age := item(api.FMore, "age", "20")
	f := and(ann, age)
	for _, x := range []struct {
		plain api.Schema
		want  api.Program
	}{
		{plainSchema(), program(consts(keyed("ann"), fetch(api.GetFrom, tAge, "p\x00\x00\x00\x0220")), get(0), get(1), opAnd)},
		{bare, program(consts(and(ann, age)), opAll, tested(0))},
		{some, program(consts(fetch(api.GetFrom, tAge, "p\x00\x00\x00\x0220"), ann), get(0), tested(1))},
		{few, nothingAtAll},
	} {
		empty := storeOf(t, x.plain)
		got := checkWhole(t, empty, f, nil)
		if !slices.Equal(got.Code, x.want.Code) || len(got.Consts) != len(x.want.Consts) {
			t.Errorf("%s; want %s", shown(got), shown(x.want))
		}
		for _, f := range []api.Filter{ann, not(ann), named, or(ann, bob), and(ann, named, have("objectClass")), not(and(ann, bob)), or(not(ann), void), pieces("cn", "ann*")} {
			checkWhole(t, empty, f, nil)
			checkWhole(t, empty, f, fewOnes)
		}
	}
	// Without records an Or of fetches is of at most none.
	empty := storeOf(t, plainSchema())
	checkWholeIs(t, empty, or(ann, bob), nil, program(consts(keyed("ann"), keyed("bob")), get(0), get(1), opOr))
	checkWholeIs(t, empty, or(ann, bob), fewOnes, program(consts(or(ann, bob)), opAll, tested(0)))
	// Whatever the guess, what the store cannot fetch is not fetched.
	without := storeOf(t, bare)
	for _, guess := range someGuesses {
		checkWholeIs(t, without, ann, constantly(guess), program(consts(ann), opAll, tested(0)))
		checkWholeIs(t, without, not(ann), constantly(guess), program(consts(not(ann)), opAll, tested(0)))
	}
}

// guess may look at the store, and write over what it is handed; it is asked only what the store can.
func TestWholeAsks(t *testing.T) {
	st := people(t)
	f := and(pieces("sn", "abc*def"), ann, or(bob, have("age")), named)
	want, _ := modelWhole(st, f, nil)
	asked := 0
	got, e := compile.Whole(st, f, func(q api.Fetch) float64 {
		asked++
		if !st.Can(q) {
			t.Errorf("%v is asked", q)
		}
		n := st.Count(q)
		for i := range q.Pieces {
			q.Pieces[i] = "spoilt"
		}
		return float64(n)
	})
	if e != api.OK || !isSame(got, want) || asked < 3 {
		t.Errorf("%s, %v, %d asked; want %s", shown(got), e, asked, shown(want))
	}
	// It may call the package again.
	checkWhole(t, st, f, func(q api.Fetch) float64 {
		inner, _ := compile.Whole(st, or(ann, bob), nil)
		return float64(len(inner.Code) + len(q.Key))
	})
}

// What Whole answers is of the store as it is then, and leaves it so.
func TestWholeLeavesTheStore(t *testing.T) {
	st := people(t)
	told := func() string {
		text := fmt.Sprint(st.Ids(), st.Len(), st.Count(keyed("ann").Fetch))
		for _, id := range st.Ids() {
			r, _ := st.Get(id)
			text += fmt.Sprint(r)
		}
		return text
	}
	was := told()
	for _, f := range []api.Filter{ann, and(ann, bob), not(named), void, or(ann, void)} {
		first := checkWhole(t, st, f, nil)
		if again := checkWhole(t, st.Clone(), f, nil); !isSame(first, again) {
			t.Errorf("%s; of its clone %s", shown(first), shown(again))
		}
	}
	if told() != was {
		t.Errorf("%s; it was %s", told(), was)
	}
}

// As many parts as a filter may have, as deep as it may be.
func TestWholeBounds(t *testing.T) {
	st := people(t)
	items := make([]api.Filter, api.MaxNodes-1)
	for i := range items {
		items[i] = equal("cn", strconv.Itoa(100000+i))
	}
	for _, f := range []api.Filter{and(items...), or(items...), not(and(items...))} {
		for _, guess := range []func(api.Fetch) float64{nil, manyGuesses, constantly(0)} {
			got, e := compile.Whole(st, f, guess)
			want, _ := modelWhole(st, f, guess)
			if e != api.OK || !isSame(got, want) {
				t.Errorf("%s, %v; want %s", shown(got), e, shown(want))
			}
			checkSmall(t, st, f, got)
		}
		checkWholeRefused(t, st, api.Filter{Kind: api.FAnd, Kids: append(slices.Clip(items), ann)}, api.ErrLong)
	}
	// Two levels of the plan for each of the filter's.
	f := annX
	for level := range (api.MaxDepth - 1) / 2 {
		f = or(eve, and(f, equal("name", strconv.Itoa(level)), equal("cn", strconv.Itoa(level))))
	}
	e, parts, depth := filter.Check(f)
	// The Or of each level is guessed to bring more than the item beside it: it is laid above that one.
	got := checkWhole(t, st, f, func(q api.Fetch) float64 { return float64(len(q.Key) / 3) })
	if e != api.OK || depth < api.MaxDepth-1 || len(got.Code) < parts {
		t.Errorf("%v, %d deep, %s", e, depth, shown(got))
	}
	if lists := code.Depth(got); lists < 30 || lists > parts+1 {
		t.Errorf("%d lists", lists)
	}
	checkWholeRefused(t, st, within(api.FNot, 5, f), api.ErrDeep)
	// Texts as long as they may be.
	long := strings.Repeat("X", api.MaxText)
	checkWhole(t, st, and(equal("cn", long), pieces("sn", long+"*"+long), equal("sn;x", long)), fewOnes)
}
