package shape_test

import (
	"slices"
	"strings"
	"testing"

	"roster/api"
	"roster/filter"
	"roster/shape"
)

func checkNormal(t *testing.T, f, want api.Filter) {
	t.Helper()
	n, e := shape.Normal(f)
	if e != api.OK || !isSame(n, want) {
		t.Errorf("Normal(%s) is %s, %v; want %s", shown(f), shown(n), e, shown(want))
	}
}

func checkIs(t *testing.T, f api.Filter, want bool) {
	t.Helper()
	if got := shape.Is(f); got != want {
		t.Errorf("Is(%s) is %v", shown(f), got)
	}
}

// checkIsNormal: f is its own normal form.
func checkIsNormal(t *testing.T, f api.Filter) {
	t.Helper()
	checkNormal(t, f, f)
	checkIs(t, f, true)
}

// checkBecomes: f is not its own normal form, which is n.
func checkBecomes(t *testing.T, f, n api.Filter) {
	t.Helper()
	checkNormal(t, f, n)
	checkIs(t, f, false)
	checkIsNormal(t, n)
}

// checkRefused: none of the calls takes f.
func checkRefused(t *testing.T, f api.Filter, want api.Errno) {
	t.Helper()
	if n, e := shape.Normal(f); e != want || !isSame(n, api.Filter{}) {
		t.Errorf("Normal(%s) is %s, %v; want %v", shown(f), shown(n), e, want)
	}
	if n, some, e := shape.Bare(testSchema(t), f); e != want || some || !isSame(n, api.Filter{}) {
		t.Errorf("Bare(%s) is %s, %v, %v; want %v", shown(f), shown(n), some, e, want)
	}
	if n, some, e := shape.Bare(nil, f); e != api.ErrNil || some || !isSame(n, api.Filter{}) {
		t.Errorf("Bare(nil, %s) is %s, %v, %v", shown(f), shown(n), some, e)
	}
	checkIs(t, f, false)
}

// The tests lean on the order of their items.
func TestItemsRise(t *testing.T) {
	for _, row := range [][]api.Filter{{a, b, c, u}, oneOfEach()} {
		for i := range row[1:] {
			if filter.Cmp(row[i], row[i+1]) != -1 {
				t.Errorf("%s, %s", shown(row[i]), shown(row[i+1]))
			}
		}
	}
}

// The chapter's examples.
func TestNormalExamples(t *testing.T) {
	checkBecomes(t, and(b, a, and(a, c)), and(a, b, c))
	checkBecomes(t, not(and(a, not(b))), or(not(a), b))
	checkBecomes(t, or(a, a), a)
	checkBecomes(t, not(not(a)), a)
	checkBecomes(t, and(or(a)), a)
	checkRefused(t, and(), api.ErrFilter)
	checkIs(t, and(a, b), true)
	checkIs(t, and(b, a), false)
	checkIs(t, not(and(a, b)), false)
}

// An item of each kind, Not of it, and many Nots: known or not makes no difference.
func TestNormalLiterals(t *testing.T) {
	for _, x := range append(oneOfEach(), voidOfEach()...) {
		checkIsNormal(t, x)
		checkIsNormal(t, not(x))
		for many := 2; many < api.MaxDepth; many++ {
			checkBecomes(t, nots(many, x), nots(many%2, x))
		}
	}
}

// One kid alone stands for itself, whatever it is and however many stand around it.
func TestNormalOneKid(t *testing.T) {
	for _, x := range []api.Filter{a, not(a), and(a, b), or(a, b), and(or(not(b), a), or(a, b), c), or(and(a, b), not(a))} {
		checkIsNormal(t, x)
		for _, f := range []api.Filter{and(x), or(x), and(and(x)), or(or(x)), and(or(x)), or(and(x)), and(or(and(or(x)))), not(not(x)), not(and(not(x))), not(or(not(x))), and(not(or(not(and(x)))))} {
			checkBecomes(t, f, x)
		}
	}
	checkBecomes(t, not(and(a)), not(a))
	checkBecomes(t, not(or(not(and(or(not(a)))))), not(a))
}

// Not above an And and an Or.
func TestNormalBelowNot(t *testing.T) {
	checkBecomes(t, not(and(a, b)), or(not(a), not(b)))
	checkBecomes(t, not(or(a, b)), and(not(a), not(b)))
	checkBecomes(t, not(and(b, a)), or(not(a), not(b)))
	checkBecomes(t, not(or(not(a), not(b))), and(a, b))
	checkBecomes(t, not(not(and(b, a))), and(a, b))
	checkBecomes(t, nots(3, and(a, b)), or(not(a), not(b)))
	checkBecomes(t, nots(61, or(b, a)), and(not(a), not(b)))
	checkBecomes(t, nots(62, or(b, a)), or(a, b))
	checkBecomes(t, not(or(a, and(b, c))), and(or(not(b), not(c)), not(a)))
	checkBecomes(t, not(and(not(or(c, a)), or(b, not(c)))), or(and(not(b), c), a, c))
	checkBecomes(t, not(and(a, nots(4, or(b, not(and(c, a)))))), or(and(not(b), a, c), not(a)))
}

// Kids that are the same, and kids in any order.
func TestNormalKids(t *testing.T) {
	for _, of := range []func(...api.Filter) api.Filter{and, or} {
		checkBecomes(t, of(a, a), a)
		checkBecomes(t, of(not(a), not(a), not(a)), not(a))
		checkBecomes(t, of(a, nots(2, a), nots(62, a)), a)
		checkIsNormal(t, of(not(a), a))
		checkBecomes(t, of(a, not(a)), of(not(a), a))
		checkBecomes(t, of(c, a, b, a, c), of(a, b, c))
		checkBecomes(t, of(a, a, b), of(a, b))
		checkBecomes(t, of(a, b, b), of(a, b))
		checkIsNormal(t, of(oneOfEach()...))
		back := oneOfEach()
		slices.Reverse(back)
		checkBecomes(t, of(back...), of(oneOfEach()...))
		checkBecomes(t, of(slices.Concat(back, oneOfEach(), back)...), of(oneOfEach()...))
		checkBecomes(t, of(slices.Concat(back, notAll(back))...), of(slices.Concat(notAll(oneOfEach()), oneOfEach())...))
	}
	checkBecomes(t, and(or(a, b), or(b, a), or(a, b, a)), or(a, b))
	checkBecomes(t, or(and(b, a), and(a, b)), and(a, b))
	checkBecomes(t, or(and(a, or(b, c)), and(or(c, b), a), and(a, not(and(not(b), not(c))))), and(or(b, c), a))
	checkBecomes(t, not(or(not(and(a, b)), or(not(b), not(a)))), and(a, b))
	// By kind And comes first, then Or, Not, the items; of the same kind a beginning first.
	checkBecomes(t, and(a, not(a), or(a, c), or(b, c), or(a, b), or(a, b, c)), and(or(a, b), or(a, b, c), or(a, c), or(b, c), not(a), a))
	checkBecomes(t, or(a, not(a), and(a, c), and(or(a, b), c)), or(and(or(a, b), c), and(a, c), not(a), a))
}

// Kids that filter.Cmp holds apart are apart, in whichever field they differ, and whatever a schema would make of them.
func TestNormalKidsApart(t *testing.T) {
	for _, row := range [][]api.Filter{
		{equal("CN", "x"), equal("cn", "X"), equal("cn", "x"), equal("cn;x", "x"), equal("commonName", "x")},
		{part("cn", "", "", "a"), part("cn", "", "", "a", "a"), part("cn", "", "a", "a"), part("cn", "", "b", "a"), part("cn", "a", ""), part("cn", "a", "a")},
		{ruled("", "r", "", false), ruled("", "r", "", true), ruled("", "r", "v", false), ruled("cn", "", "", false), ruled("cn", "", "", true), ruled("cn", "r", "", false)},
		{item(api.FEqual, "cn", "x"), item(api.FMore, "cn", "x"), item(api.FLess, "cn", "x"), item(api.FLike, "cn", "x")},
	} {
		slices.SortFunc(row, filter.Cmp)
		back := slices.Clone(row)
		slices.Reverse(back)
		for _, of := range []func(...api.Filter) api.Filter{and, or} {
			checkIsNormal(t, of(row...))
			checkBecomes(t, of(back...), of(row...))
			checkBecomes(t, of(append(slices.Clone(back), notAll(back)...)...), of(append(notAll(row), row...)...))
		}
	}
}

// Kids of their own kind, also those that become so only below a Not or behind the loss of others.
func TestNormalOwnKind(t *testing.T) {
	checkBecomes(t, and(a, and(b, c)), and(a, b, c))
	checkBecomes(t, or(or(or(c, b), a), or(a)), or(a, b, c))
	checkBecomes(t, and(and(c), and(and(b), and(and(a)))), and(a, b, c))
	checkBecomes(t, and(c, not(or(not(a), not(b)))), and(a, b, c))
	checkBecomes(t, or(c, not(and(not(a), not(b)))), or(a, b, c))
	checkBecomes(t, not(and(c, or(not(a), b))), or(and(not(b), a), not(c)))
	checkBecomes(t, not(and(not(c), not(or(b, a)))), or(a, b, c))
	checkBecomes(t, and(c, or(and(a, b))), and(a, b, c))
	checkBecomes(t, and(c, or(and(a, b), and(b, a))), and(a, b, c))
	checkBecomes(t, or(c, and(or(a, b), or(b, a), or(b, or(b, a)))), or(a, b, c))
	checkBecomes(t, and(or(and(a, or(and(b, c), and(c, b))), and(c, b, a))), and(a, b, c))
	checkBecomes(t, and(a, or(and(a, a), a)), a)
	checkBecomes(t, and(a, or(not(not(a)), and(or(a)))), a)
	checkIsNormal(t, and(or(and(or(a, b), c), b), a))
	// What is spread may be there already.
	checkBecomes(t, and(a, b, or(and(b, a), and(a, b)), and(b, c)), and(a, b, c))
	checkBecomes(t, or(or(a, b), and(or(b, a))), or(a, b))
}

// Filters that may not be, as a whole and deep inside, also below a Not.
func TestNormalRefused(t *testing.T) {
	loop := make([]api.Filter, 2)
	loop[0], loop[1] = api.Filter{Kind: api.FOr, Kids: loop}, a
	long := strings.Repeat("x", api.MaxText+1)
	for _, x := range []struct {
		f    api.Filter
		want api.Errno
	}{
		{api.Filter{}, api.ErrFilter}, {or(), api.ErrFilter}, {api.Filter{Kind: api.FNot}, api.ErrFilter}, {api.Filter{Kind: api.FNot, Kids: []api.Filter{a, a}}, api.ErrFilter}, {api.Filter{Kind: -1}, api.ErrFilter}, {api.Filter{Kind: 10, Desc: "cn"}, api.ErrFilter},
		{have(""), api.ErrFilter}, {have("c n"), api.ErrFilter}, {item(api.FHave, "cn", "x"), api.ErrFilter}, {api.Filter{Kind: api.FHave, Desc: "cn", Kids: []api.Filter{a}}, api.ErrFilter}, {api.Filter{Kind: api.FAnd, Desc: "cn", Kids: []api.Filter{a}}, api.ErrFilter}, {api.Filter{Kind: api.FNot, Dn: true, Kids: []api.Filter{a}}, api.ErrFilter},
		{part("cn", "", ""), api.ErrFilter}, {part("cn", "a", "", ""), api.ErrFilter}, {ruled("", "", "x", false), api.ErrFilter}, {ruled("cn", "dn", "x", false), api.ErrFilter},
		{equal("cn", long), api.ErrLong}, {have(long), api.ErrLong}, {part("cn", "", "", "a", long), api.ErrLong}, {equal("c n", long), api.ErrLong},
		{loop[0], api.ErrDeep},
	} {
		for _, f := range []api.Filter{x.f, not(x.f), not(not(x.f)), and(x.f), or(a, x.f), and(a, a, not(or(x.f, b))), or(or(a), or(b, or(x.f))), and(u, x.f)} {
			checkRefused(t, f, x.want)
		}
	}
	// Of two that may not be the first in order tells the error.
	checkRefused(t, and(equal("cn", long), or()), api.ErrLong)
	checkRefused(t, and(or(), equal("cn", long)), api.ErrFilter)
	checkRefused(t, not(or(not(nots(62, a)), or())), api.ErrDeep)
	checkRefused(t, not(or(or(), not(nots(62, a)))), api.ErrFilter)
}

// Filters by chance, held against the plain normal form.
func TestNormalRandom(t *testing.T) {
	d := diceOf(1)
	same := 0
	for range 40000 {
		f := d.filter(d.items(), 1+d.Intn(7))
		want := modelNormal(f)
		checkNormal(t, f, want)
		is := isSame(f, want)
		checkIs(t, f, is)
		if is {
			same++
		}
		checkIsNormal(t, want)
		if t.Failed() {
			return
		}
	}
	if same < 4000 || same > 36000 {
		t.Errorf("%d of the filters are their own normal form", same)
	}
}

// What is wrong in filters by chance is told as filter.Check tells it.
func TestRefusedRandom(t *testing.T) {
	d := diceOf(2)
	for range 3000 {
		f := d.spoilt(d.filter(d.items(), 1+d.Intn(6)))
		want, _, _ := filter.Check(f)
		if want == api.OK {
			t.Fatalf("%s may be", shown(f))
		}
		checkRefused(t, f, want)
	}
}
