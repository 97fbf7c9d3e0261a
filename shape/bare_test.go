package shape_test

import (
	"slices"
	"testing"

	"roster/api"
	"roster/schema"
	"roster/shape"
)

func checkBare(t *testing.T, s *schema.Schema, f, want api.Filter) {
	t.Helper()
	rest, some, e := shape.Bare(s, f)
	if e != api.OK || !some || !isSame(rest, want) {
		t.Errorf("Bare(%s) is %s, %v, %v; want %s", shown(f), shown(rest), some, e, shown(want))
	}
}

func checkNothing(t *testing.T, s *schema.Schema, f api.Filter) {
	t.Helper()
	rest, some, e := shape.Bare(s, f)
	if e != api.OK || some || !isSame(rest, api.Filter{}) {
		t.Errorf("Bare(%s) is %s, %v, %v; want nothing", shown(f), shown(rest), some, e)
	}
}

// The chapter's examples.
func TestBareExamples(t *testing.T) {
	s := testSchema(t)
	checkBare(t, s, or(a, u), a)
	checkBare(t, s, or(a, not(u)), a)
	checkNothing(t, s, and(a, u))
	checkNothing(t, s, u)
	checkBare(t, s, not(and(a, u)), not(a))
	checkBare(t, s, or(b, and(a, u), and(c, or(u, a))), or(and(a, c), b))
}

// Literals of each kind: those that are known stay, the void ones are lost, for whichever reason they are not known.
func TestBareLiterals(t *testing.T) {
	s := testSchema(t)
	for _, x := range oneOfEach() {
		for many := range 6 {
			checkBare(t, s, nots(many, x), nots(many%2, x))
		}
	}
	for _, x := range voidOfEach() {
		for many := range 6 {
			checkNothing(t, s, nots(many, x))
		}
		checkNothing(t, s, and(a, x))
		checkNothing(t, s, and(a, not(x), b))
		checkBare(t, s, or(a, x, b), or(a, b))
		checkBare(t, s, or(not(x), b), b)
	}
	checkNothing(t, s, or(voidOfEach()...))
	checkNothing(t, s, and(voidOfEach()...))
	checkBare(t, s, or(slices.Concat(voidOfEach(), oneOfEach(), notAll(voidOfEach()))...), or(oneOfEach()...))
	checkNothing(t, s, and(append(oneOfEach(), u)...))
	checkBare(t, s, and(oneOfEach()...), and(oneOfEach()...))
}

// Which literals are void hangs on the schema.
func TestBareBySchema(t *testing.T) {
	plain := plainSchema()
	few := schemaOf(t, api.Schema{Types: plain.Types[:3]})
	f := or(and(a, b), and(b, c), not(u), not(a))
	checkBare(t, testSchema(t), f, or(and(a, b), and(b, c), not(a)))
	checkBare(t, few, f, and(b, c))
	checkNothing(t, schemaOf(t, api.Schema{Types: plain.Types[:1]}), f)
}

// Ands and Ors that lose kids.
func TestBareJoints(t *testing.T) {
	s := testSchema(t)
	checkNothing(t, s, and(u, not(u)))
	checkNothing(t, s, or(u, not(u)))
	checkNothing(t, s, or(and(a, u), and(not(u), b), u))
	checkNothing(t, s, and(a, or(u, and(u, b))))
	checkNothing(t, s, not(or(a, u)))
	checkNothing(t, s, not(or(a, not(and(b, not(u))))))
	checkBare(t, s, not(and(a, u, not(b))), or(not(a), b))
	checkBare(t, s, not(and(a, u)), not(a))
	checkBare(t, s, or(a, and(b, or(c, u))), or(and(b, c), a))
	checkBare(t, s, and(a, or(u, b), or(c, not(u))), and(a, b, c))
	// An Or that is left with one kid, which is of the kind of what stands around it.
	checkBare(t, s, and(c, or(u, and(a, b))), and(a, b, c))
	checkBare(t, s, or(c, and(or(a, b), or(u, or(b, a)))), or(a, b, c))
	checkBare(t, s, and(or(u, and(c, or(not(u), and(a, b))))), and(a, b, c))
	checkBare(t, s, not(or(c, and(u, or(a, b)))), and(not(a), not(b), not(c)))
	// Kids that become the same behind the loss.
	checkBare(t, s, and(or(a, u), or(a, not(u)), a), a)
	checkBare(t, s, or(and(a, or(b, u)), and(a, or(b, not(u)))), and(a, b))
	checkBare(t, s, and(or(a, b, u), or(b, a)), or(a, b))
	// Kids whose order is another one behind the loss.
	checkBare(t, s, and(or(u, a), b, or(not(u), not(c))), and(not(c), a, b))
	checkBare(t, s, and(or(a, c), or(b, c), or(a, u, b)), and(or(a, b), or(a, c), or(b, c)))
	// Nothing to be lost: the normal form.
	checkBare(t, s, not(or(a, and(b, c))), and(or(not(b), not(c)), not(a)))
	checkBare(t, s, and(b, or(a), and(a, c)), and(a, b, c))
}

// No schema counts ahead of a filter that may not be.
func TestBareNil(t *testing.T) {
	for _, f := range []api.Filter{a, u, and(a, b), and(), {}, nots(64, a), have("c n")} {
		if rest, some, e := shape.Bare(nil, f); e != api.ErrNil || some || !isSame(rest, api.Filter{}) {
			t.Errorf("Bare(nil, %s) is %s, %v, %v", shown(f), shown(rest), some, e)
		}
	}
}

// Filters and schemas by chance, held against what the chapter's words say.
func TestBareRandom(t *testing.T) {
	d := diceOf(3)
	nothing, less := 0, 0
	for range 3000 {
		s := d.schema(t)
		for range 12 {
			f := d.filter(d.items(), 1+d.Intn(7))
			want, some := modelBare(s, f)
			switch {
			case !some:
				nothing++
				checkNothing(t, s, f)
			default:
				if !isSame(want, modelNormal(f)) {
					less++
				}
				checkBare(t, s, f, want)
				checkBare(t, s, want, want)
				checkIsNormal(t, want)
			}
			if t.Failed() {
				return
			}
		}
	}
	if nothing < 3000 || less < 3000 {
		t.Errorf("%d times nothing was left, %d times less", nothing, less)
	}
}
