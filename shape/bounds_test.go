package shape_test

import (
	"slices"
	"strconv"
	"strings"
	"testing"

	"roster/api"
	"roster/filter"
	"roster/shape"
)

// numbered are so many items, rising by Cmp, all known under testSchema.
func numbered(many int) []api.Filter {
	out := make([]api.Filter, many)
	for i := range out {
		out[i] = equal("age", strconv.Itoa(100000+i))
	}
	return out
}

func mixed(d dice, kids []api.Filter) []api.Filter {
	out := slices.Clone(kids)
	d.Shuffle(len(out), func(i, j int) { out[i], out[j] = out[j], out[i] })
	return out
}

func mapped(kids []api.Filter, by func(api.Filter) api.Filter) []api.Filter {
	out := make([]api.Filter, len(kids))
	for i, kid := range kids {
		out[i] = by(kid)
	}
	return out
}

// checkFull: f has MaxNodes parts; its normal form is n, which is what is left of it, too; with one more part it is refused.
func checkFull(t *testing.T, f, n api.Filter) {
	t.Helper()
	if e, nodes, _ := filter.Check(f); e != api.OK || nodes != api.MaxNodes {
		t.Errorf("%s: %v, %d parts", shown(f), e, nodes)
	}
	checkNormal(t, f, n)
	checkBare(t, testSchema(t), f, n)
	checkSmaller(t, n, f)
	checkIs(t, n, true)
	checkRefused(t, api.Filter{Kind: f.Kind, Kids: append(slices.Clone(f.Kids), a)}, api.ErrLong)
}

// MaxNodes parts, and one more, beside one another, with many Nots beside, and in one another.
func TestMaxNodes(t *testing.T) {
	d := diceOf(6)
	full := numbered(api.MaxNodes - 1)
	half := numbered(api.MaxNodes/2 - 1)
	for _, of := range []func(...api.Filter) api.Filter{and, or} {
		checkFull(t, of(full...), of(full...))
		checkFull(t, of(mixed(d, full)...), of(full...))
		checkFull(t, of(slices.Repeat([]api.Filter{a}, api.MaxNodes-1)...), a)
		checkFull(t, of(mixed(d, notAll(full))...), of(notAll(full)...))
		// Half of them twice; half of them, each in an And of its own.
		checkFull(t, of(append(mixed(d, slices.Concat(half, half)), b)...), of(append(slices.Clone(half), b)...))
		checkFull(t, of(append(mapped(mixed(d, half), func(x api.Filter) api.Filter { return and(x) }), b)...), of(append(slices.Clone(half), b)...))
	}
	back := slices.Clone(full)
	slices.Reverse(back)
	checkNormal(t, not(and(back...)), or(notAll(full)...))
	checkNormal(t, nots(62, and(back...)), and(full...))
}

// As many Nots as can stand around MaxNodes - 1 items: they count for the depth alone.
func TestMaxNodesWithNots(t *testing.T) {
	d := diceOf(7)
	full := numbered(api.MaxNodes - 1)
	wrapped := mapped(mixed(d, full), func(x api.Filter) api.Filter { return nots(20, x) })
	checkNormal(t, or(wrapped...), or(full...))
	same := slices.Repeat([]api.Filter{nots(61, a)}, api.MaxNodes-1)
	checkNormal(t, not(and(same...)), a)
	checkNormal(t, and(same...), not(a))
	checkRefused(t, and(append(same, nots(61, a))...), api.ErrLong)
	checkRefused(t, and(append(same[:9:9], nots(63, a))...), api.ErrDeep)
}

// Many kids beside one that has as many parts as they: it is no more work than they are.
func TestGreatKids(t *testing.T) {
	d := diceOf(8)
	half := numbered(api.MaxNodes/2 - 1)
	great := or(half...)
	checkFull(t, and(append(mixed(d, half), or(mixed(d, half)...))...), and(append([]api.Filter{great}, half...)...))
	var small []api.Filter
	for i := range 8000 {
		small = append(small, or(numbered(1)[0], equal("age", strconv.Itoa(200000+i))))
	}
	want := and(append([]api.Filter{great}, small...)...)
	checkNormal(t, and(append(mixed(d, small), great)...), want)
	checkNormal(t, and(append([]api.Filter{or(mixed(d, half)...)}, mixed(d, small)...)...), want)
	// Kids that differ but in their last one, and kids that are the same.
	wide := numbered(250)
	var kids, unlike []api.Filter
	for i := range 250 {
		unlike = append(unlike, or(append(slices.Clone(wide), equal("age", strconv.Itoa(200000+i)))...))
		kids = append(kids, or(mixed(d, wide)...))
	}
	checkNormal(t, and(mixed(d, unlike)...), and(unlike...))
	checkNormal(t, and(kids...), or(wide...))
	checkNormal(t, and(b, not(and(notAll(kids)...))), and(or(wide...), b))
}

// doubled has two of the same kids in each part, levels of And and Or by turns.
func doubled(levels int, f api.Filter) api.Filter {
	for level := range levels {
		f = api.Filter{Kind: int8(level % 2), Kids: []api.Filter{f, f}}
	}
	return f
}

// checkDeep: f is as deep as may be; its normal form is n, which is what is left of it, too; one deeper it is refused.
func checkDeep(t *testing.T, f, n api.Filter) {
	t.Helper()
	if e, _, depth := filter.Check(f); e != api.OK || depth != api.MaxDepth {
		t.Errorf("%s: %v, %d deep", shown(f), e, depth)
	}
	checkNormal(t, f, n)
	checkBare(t, testSchema(t), f, n)
	checkSmaller(t, n, f)
	checkIs(t, n, true)
	for _, deeper := range []api.Filter{and(f), or(a, f), not(f)} {
		checkRefused(t, deeper, api.ErrDeep)
	}
}

func TestMaxDepth(t *testing.T) {
	checkDeep(t, nots(63, a), not(a))
	checkDeep(t, not(and(nots(61, a))), a)
	// And and Or by turns: nothing is spread, so the normal form is as deep.
	f := and(b, c)
	n := f
	for level := range api.MaxDepth - 2 {
		kind := int8((level + 1) % 2)
		f = api.Filter{Kind: kind, Kids: []api.Filter{a, f, a}}
		n = api.Filter{Kind: kind, Kids: []api.Filter{n, a}}
	}
	checkDeep(t, f, n)
	if _, _, depth := filter.Check(n); depth != api.MaxDepth {
		t.Errorf("%d deep", depth)
	}
	// The same with Nots between: all becomes one Or.
	f = a
	literals := []api.Filter{not(a)}
	for level := range (api.MaxDepth - 2) / 2 {
		x := equal("cn", strconv.Itoa(10+level))
		literals = append(literals, x)
		if level%2 == 0 {
			f = not(and(f, not(x)))
		} else {
			f = not(or(f, x))
		}
	}
	checkDeep(t, f, or(literals...))
}

// Ands as deep in one another as may be, with none, few and many kids beside.
func TestMaxDepthSpread(t *testing.T) {
	d := diceOf(9)
	f := a
	for range api.MaxDepth - 1 {
		f = and(f)
	}
	checkDeep(t, f, a)
	for _, many := range []int{1, 2, 1000} {
		all := numbered(1 + many*(api.MaxDepth-1))
		rest := mixed(d, all)
		f := rest[0]
		for kids := range slices.Chunk(rest[1:], many) {
			f = and(mixed(d, append(slices.Clone(kids), f))...)
		}
		checkDeep(t, f, and(all...))
	}
}

// So many parts that are the same that one item is left of them.
func TestDoubled(t *testing.T) {
	checkNormal(t, doubled(15, a), a)
	checkNormal(t, nots(46, doubled(15, not(a))), not(a))
	checkNormal(t, nots(47, doubled(15, not(a))), a)
	checkRefused(t, nots(48, doubled(15, not(a))), api.ErrDeep)
	checkRefused(t, doubled(16, a), api.ErrLong)
	checkRefused(t, doubled(63, a), api.ErrLong)
	checkRefused(t, doubled(64, a), api.ErrDeep)
}

// Texts of MaxText bytes, that differ but in the last one.
func TestMaxText(t *testing.T) {
	long := strings.Repeat("x", api.MaxText-1)
	x, y := equal("cn", long+"x"), equal("cn", long+"y")
	pieces := part("cn", long+"y", long+"z", long+"x", long+"y")
	checkBecomes(t, and(y, x, not(pieces), y, x), and(not(pieces), x, y))
	checkBecomes(t, not(or(have(long+"y"), have(long+"x"))), and(not(have(long+"x")), not(have(long+"y"))))
	checkBare(t, testSchema(t), or(have(long+"y"), y, x, not(have(long+"y"))), or(x, y))
	checkRefused(t, and(y, equal("cn", long+"xx")), api.ErrLong)
}

// Bare of as many parts as may be, of which one, half or all are void.
func TestBareMaxNodes(t *testing.T) {
	s := testSchema(t)
	full := numbered(api.MaxNodes - 1)
	checkNothing(t, s, and(append(slices.Clone(full[:len(full)-1]), u)...))
	checkBare(t, s, or(append([]api.Filter{u}, full[1:]...)...), or(full[1:]...))
	void := mapped(full, func(x api.Filter) api.Filter { return equal("zz", x.Value) })
	checkNothing(t, s, or(void...))
	checkNothing(t, s, not(or(void...)))
	half := slices.Concat(void[:api.MaxNodes/2], full[:api.MaxNodes/2-1])
	checkBare(t, s, or(half...), or(full[:api.MaxNodes/2-1]...))
	if rest, some, e := shape.Bare(s, not(or(half...))); some || e != api.OK {
		t.Errorf("%s, %v", shown(rest), e)
	}
}
