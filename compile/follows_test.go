package compile_test

import (
	"slices"
	"testing"

	"roster/api"
	"roster/code"
	"roster/compile"
)

// P19.1, P19.3, P19.4: plans by chance, some of which may not be.
func TestCompileByChance(t *testing.T) {
	d := diceOf(2)
	s := schemaOf(t, plainSchema())
	refused, longest := 0, 0
	for range 30000 {
		p := d.plan(s, 1+d.Intn(6))
		if d.Intn(4) == 0 {
			p = d.spoilt(s, p)
		}
		checkCompile(t, p)
		got, e := compile.Compile(p)
		if e != api.OK {
			refused++
		}
		longest = max(longest, len(got.Code))
		if t.Failed() {
			return
		}
	}
	if refused < 2000 || longest < 100 {
		t.Errorf("%d are refused; the longest has %d instructions", refused, longest)
	}
}

// P19.4: each constant is named by one instruction, and they are named in their order.
func TestConstantsInOrder(t *testing.T) {
	d := diceOf(3)
	s := schemaOf(t, plainSchema())
	for range 5000 {
		got, e := compile.Compile(d.plan(s, 6))
		if e != api.OK {
			t.Fatal(e)
		}
		next := 0
		for _, i := range got.Code {
			switch {
			case i.Op == api.OpFetch || i.Op == api.OpTest:
				if i.Arg != next || got.Consts[next].Test != (i.Op == api.OpTest) {
					t.Fatalf("%s", shown(got))
				}
				next++
			case i.Arg != 0:
				t.Fatalf("%s", shown(got))
			}
		}
		if next != len(got.Consts) {
			t.Fatalf("%s", shown(got))
		}
	}
}

// P19.2, P19.3, P19.4 and the whole's P1 and P2: filters, stores and guesses by chance, between changes of the store.
func TestWholeByChance(t *testing.T) {
	d := diceOf(4)
	fetches, tests, nothings, hits, less := 0, 0, 0, 0, 0
	for range 1200 {
		st := d.store(t, 25)
		for range 8 {
			f := d.filter(st.Schema(), 1+d.Intn(5))
			got := checkWhole(t, st, f, d.guesses())
			for _, c := range got.Consts {
				if c.Test {
					tests++
				} else {
					fetches++
				}
			}
			if isSame(got, nothingAtAll) {
				nothings++
			}
			if slices.Contains(got.Code, opLess) {
				less++
			}
			hits += len(found(t, st, got))
			if ids := st.Ids(); len(ids) > 0 && d.Intn(3) == 0 {
				st.Delete(ids[d.Intn(len(ids))])
			}
		}
		if t.Failed() {
			return
		}
	}
	if fetches < 1000 || tests < 1000 || nothings < 1000 || hits < 1000 || less < 50 {
		t.Errorf("%d fetches, %d tests, %d nothings, %d found, %d less", fetches, tests, nothings, hits, less)
	}
}

// P19.3: whatever guess says, also another thing each time.
func TestSmallWhateverGuessSays(t *testing.T) {
	d := diceOf(5)
	for range 500 {
		st := d.store(t, 12)
		for range 10 {
			f := d.filter(st.Schema(), 1+d.Intn(6))
			got, e := compile.Whole(st, f, func(api.Fetch) float64 { return oneOf(d, someGuesses...) })
			if e != api.OK {
				t.Fatalf("%s: %v", shownFilter(f), e)
			}
			checkSmall(t, st, f, got)
			checkFinds(t, st, f, got)
		}
		if t.Failed() {
			return
		}
	}
}

// P18's bytes: what compile makes can be written, and is read as it was.
func TestProgramsAreWritten(t *testing.T) {
	d := diceOf(6)
	for range 100 {
		st := d.store(t, 12)
		for range 10 {
			got, _ := compile.Whole(st, d.filter(st.Schema(), 5), nil)
			b, e := code.Encode(got)
			if e != api.OK {
				t.Fatalf("%s: %v", shown(got), e)
			}
			if again, e, _ := code.Decode(b); e != api.OK || !isSame(again, got) {
				t.Fatalf("%s, %v; want %s", shown(again), e, shown(got))
			}
		}
	}
}
