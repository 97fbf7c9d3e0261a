package cost_test

import (
	"math"
	"slices"
	"testing"

	"roster/api"
	"roster/cost"
)

// sized has a guess for each of the keys a, b and c, which are ahead of all.
func sized(all float64, guesses ...float64) model {
	told := map[string]float64{}
	for i, guess := range guesses {
		told[string(rune('a'+i))] = guess
	}
	return model{nil, nil, byKey(told), all}
}

// Each row of P17.3.
func TestSizes(t *testing.T) {
	a, b, c := keyed("a"), keyed("b"), keyed("c")
	m := sized(100, 7, 3, 5)
	checkSize(t, m, none, 0)
	checkSize(t, m, all, 100)
	checkSize(t, m, a, 7)
	checkSize(t, m, fetch(api.GetPart, 1, "", "a", "b"), 0) // no guess for the empty key
	checkSize(t, m, test(ann, a), 7)
	checkSize(t, m, test(ann, all), 100)
	checkSize(t, m, test(ann, test(bob, none)), 0)
	checkSize(t, m, both(a), 7)
	checkSize(t, m, both(a, b, c), 3)
	checkSize(t, m, both(b, a, all), 3)
	checkSize(t, m, both(all, a), 7)
	checkSize(t, m, both(a, none), 0)
	checkSize(t, m, either(a), 7)
	checkSize(t, m, either(a, b, c), 15)
	checkSize(t, m, either(all, all, a, none), 207)
	checkSize(t, m, less(all, a), 100)
	checkSize(t, m, less(a, all), 7)
	checkSize(t, m, less(none, a), 0)
	checkSize(t, m, both(either(a, b), test(ann, less(either(b, c), a))), 8)
	checkSize(t, m, either(both(a, b), less(c, a), test(ann, both(all, a, c))), 13)
}

// What guesses, and all, count as.
func TestSizesOfAnyNumber(t *testing.T) {
	a, b := keyed("a"), keyed("b")
	for _, x := range []struct{ told, counts float64 }{
		{0, 0}, {negative, 0}, {1, 1}, {0.25, 0.25}, {5e-324, 5e-324}, {math.MaxFloat64, math.MaxFloat64}, {inf, inf}, {nan, inf}, {-1, inf}, {-5e-324, inf}, {-math.MaxFloat64, inf}, {math.Inf(-1), inf}, {math.Float64frombits(0xfff8000000000001), inf},
	} {
		m := sized(x.told, x.told, 2)
		checkSize(t, m, all, x.counts)
		checkSize(t, m, a, x.counts)
		checkSize(t, m, test(ann, a), x.counts)
		checkSize(t, m, less(all, b), x.counts)
		checkSize(t, m, both(a, b), min(x.counts, 2))
		checkSize(t, m, both(b, all), min(x.counts, 2))
		checkSize(t, m, either(a, b), x.counts+2)
		checkSize(t, m, either(a, all), x.counts+x.counts)
		checkSize(t, m, both(a, a), x.counts)
		if got := cost.Size(all, nil, x.told); got != x.counts {
			t.Errorf("Size of all is %v, where it is %v", got, x.told)
		}
	}
	// Without a guess.
	m := model{nil, nil, nil, nan}
	checkSize(t, m, a, 0)
	checkSize(t, m, either(a, b, fetch(api.GetPart, 1, "", "a", "b")), 0)
	checkSize(t, m, both(a, all), 0)
	checkSize(t, m, either(a, all), inf)
}

// Sums are rounded step by step, from 0 on, as the kids stand.
func TestSizesRounded(t *testing.T) {
	a, b, c := keyed("a"), keyed("b"), keyed("c")
	m := sized(0, 1<<53, 1, 1)
	checkSize(t, m, either(a, b, c), 1<<53)
	checkSize(t, m, either(b, a, c), 1<<53)
	checkSize(t, m, either(b, c, a), 1<<53+2)
	checkSize(t, m, either(a, either(b, c)), 1<<53+2)
	m = sized(0, 0.1, 0.2, 0.3)
	checkSize(t, m, either(a, b, c), 0.6000000000000001)
	checkSize(t, m, either(c, b, a), 0.6)
	m = sized(0, math.MaxFloat64, math.Ldexp(1, 969), math.Ldexp(1, 970))
	checkSize(t, m, either(a, b, b, b), math.MaxFloat64)
	checkSize(t, m, either(a, c), inf) // the middle between the greatest number and the next one
	checkSize(t, m, either(b, b, a), inf)
	if size := cost.Size(either(keyed("a"), keyed("b")), func(api.Fetch) float64 { return negative }, 1); size != 0 || math.Signbit(size) {
		t.Errorf("a sum from 0 on is %v", size)
	}
}

// Of plans that may not be, wherever they may not, it is 0.
func TestSizesOfWhatMayNotBe(t *testing.T) {
	m := sized(100, 7, 3)
	for _, x := range wrongParts() {
		checkSize(t, m, x, 0)
		for _, p := range []api.Plan{test(ann, x), both(all, x), either(keyed("a"), x), either(x, all), less(all, x), less(x, all), both(keyed("a"), either(all, test(ann, less(all, x))))} {
			checkSize(t, m, p, 0)
		}
	}
	checkSize(t, m, deep(api.PlTest, 2*api.MaxDepth), 100)
	checkSize(t, m, deep(api.PlTest, 2*api.MaxDepth+1), 0)
	checkSize(t, m, both(slices.Repeat([]api.Plan{all}, 4*api.MaxNodes-1)...), 100)
	checkSize(t, m, both(slices.Repeat([]api.Plan{all}, 4*api.MaxNodes)...), 0)
}

// guess is asked of the fetches of the plan alone, each as it stands.
func TestSizesAsk(t *testing.T) {
	one, two := fetch(api.GetPart, 9, "", "a", "", "b"), fetch(api.GetFrom, 3, "k")
	asked := 0
	guess := func(q api.Fetch) float64 {
		asked++
		if !isSameFetch(q, one.Fetch) && !isSameFetch(q, two.Fetch) {
			t.Errorf("%s is asked", shownFetch(q))
		}
		return float64(q.Type)
	}
	if got := cost.Size(either(one, both(two, all), test(ann, one)), guess, 100); got != 21 || asked < 3 {
		t.Errorf("%v, %d asked", got, asked)
	}
}

// Plans by chance, held against the rows.
func TestSizesRandom(t *testing.T) {
	d := diceOf(5)
	s := testSchema(t)
	wrong := 0
	for range 20000 {
		m := model{nil, nil, d.guesses(), d.number()}
		p := d.plan(s, 1+d.Intn(5))
		checkSize(t, m, p, m.size(p))
		p = d.spoilt(s, p)
		if e, _ := modelCheck(p); e == api.OK {
			checkSize(t, m, p, m.size(p))
		} else {
			wrong++
			checkSize(t, m, p, 0)
		}
		if t.Failed() {
			return
		}
	}
	if wrong < 5000 {
		t.Errorf("%d may not be", wrong)
	}
}
