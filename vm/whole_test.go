package vm_test

import (
	"fmt"
	"slices"
	"testing"

	"roster/api"
	"roster/code"
	"roster/compile"
	"roster/filter"
	"roster/packet"
	"roster/store"
	"roster/text"
	"roster/vm"
)

// nodes are a filter's parts, Nots not counted.
func nodes(f api.Filter) int {
	_, n, _ := filter.Check(f)
	return n
}

// checkFinds goes the whole way: what compile makes of a filter, by guesses, finds the records of which it is Yes (the whole's P1, P2), and is small (P3).
func checkFinds(t testing.TB, st *store.Store, f api.Filter, guess func(q api.Fetch) float64) api.Program {
	t.Helper()
	p, e := compile.Whole(st, f, guess)
	if e != api.OK {
		t.Fatalf("Whole(%s): %v", spoken(f), e)
	}
	want := yes(st, f, st.Ids())
	if got := checkRun(t, st, p); !slices.Equal(got, want) {
		t.Errorf("%s finds %v by %s; want %v", spoken(f), got, shown(p), want)
	}
	n := nodes(f)
	ids, steps, e := vm.Run(st, p, 4)
	if !slices.Equal(ids, want) || e != api.OK || steps != len(p.Code) || steps > 4*n+4 || code.Depth(p) > n+1 {
		t.Errorf("%s of %d parts: %v, %v in %d steps, %d lists; want %v", spoken(f), n, ids, e, steps, code.Depth(p), want)
	}
	return p
}

// search goes from a filter's text to the list of numbers.
func search(t testing.TB, st *store.Store, words string) []uint64 {
	t.Helper()
	f, err := text.Parse(words)
	if err != nil {
		t.Fatal(err)
	}
	ids, _, _ := vm.Run(st, checkFinds(t, st, f, nil), 2)
	return ids
}

func checkSearch(t *testing.T, st *store.Store, words string, want ...uint64) {
	t.Helper()
	if got := search(t, st, words); !slices.Equal(got, want) {
		t.Errorf("%s finds %v; want %v", words, got, want)
	}
}

// The document's examples of the whole, as far as they go without an engine: with an index of cn by keys, and without.
func TestExamplesOfTheWhole(t *testing.T) {
	for _, bits := range []uint8{api.IxEqual, allBits, 0} {
		plain := plainSchema()
		plain.Types[tCn].Index = bits
		st := emptyStore(t, plain)
		add(t, st, 1, "cn=a", entry("cn|A", "age|30"))
		add(t, st, 2, "cn=b", entry("cn|b|Bob", "age|4"))
		checkSearch(t, st, "(age>=9)", 1)
		checkSearch(t, st, "(cn=BOB)", 2)
		checkSearch(t, st, "(name=bob)", 2)
		checkSearch(t, st, "(zz=1)")
		checkSearch(t, st, "(!(zz=1))")
		checkSearch(t, st, "(|(zz=1)(cn=bob))", 2)
		checkSearch(t, st, "(!(age>=9))", 2)
		checkSearch(t, st, "(&(cn=a)(!(cn=b)))", 1)
		p, _ := compile.Whole(st, asked("(&(cn=a)(!(cn=b)))"), nil)
		want := []api.Instr{fetched(0), tested(1)}
		if bits == 0 {
			want = []api.Instr{opAll, tested(0)}
		}
		if !slices.Equal(p.Code, want) {
			t.Errorf("%s; want %v", shown(p), want)
		}
		f, e, _ := packet.Decode([]byte{0xa3, 7, 4, 2, 'c', 'n', 4, 1, 'a'})
		if e != api.OK {
			t.Fatal(e)
		}
		checkRunIs(t, st, checkFinds(t, st, f, nil), 1)
		add(t, st, 3, "cn=c", entry("cn|A*bc"))
		checkSearch(t, st, `(cn=A\2a*)`, 3)
		checkSearch(t, st, "(!(age>=9))", 2, 3)
		// Its name and with it its cn become another one.
		if e := st.Rename(2, called("cn=d")); e != api.OK {
			t.Fatal(e)
		}
		if e, _ := st.Modify(2, []api.Mod{{Op: api.ModDelete, Attr: api.Attr{Desc: "cn", Values: []string{"b"}}}, {Op: api.ModAdd, Attr: api.Attr{Desc: "cn", Values: []string{"d"}}}}); e != api.OK {
			t.Fatal(e)
		}
		checkSearch(t, st, "(cn=d)", 2)
		checkSearch(t, st, "(cn=bob)", 2)
		checkSearch(t, st, "(cn=b)")
		checkSearch(t, st, "(cn:dn:=d)", 2)
	}
}

// The whole's P1, P2, P3 and P8: filters and guesses by chance, between changes of the store, refused ones among them; behind them the indexes are those of a store made anew.
func TestWholeByChance(t *testing.T) {
	d := diceOf(8)
	fetches, tests, hits, refused, changed := 0, 0, 0, 0, 0
	for range 150 {
		st := d.store(t, d.Intn(60))
		for range 12 {
			for range d.Intn(10) {
				if d.change(st) == api.OK {
					changed++
				} else {
					refused++
				}
			}
			f := d.filter(st.Schema(), 1+d.Intn(5))
			p := checkFinds(t, st, f, d.guesses())
			for _, c := range p.Consts {
				if c.Test {
					tests++
				} else {
					fetches++
				}
			}
			want, _, _ := vm.Run(st, p, 1)
			hits += len(want)
			anew := store.New(st.Schema())
			for _, id := range st.Ids() {
				r, _ := st.Get(id)
				anew.Add(id, r.Name, r.Entry)
			}
			checkAnswer(t, anew, p, 3, want)
		}
		if t.Failed() {
			return
		}
	}
	if fetches < 300 || tests < 300 || hits < 1000 || refused < 1000 || changed < 1000 {
		t.Errorf("%d fetches, %d tests, %d found, %d changes and %d refused", fetches, tests, hits, changed, refused)
	}
}

// The whole's P2: whatever the guesses are, and whichever indexes there are.
func TestAnyGuesses(t *testing.T) {
	texts := []string{
		"(cn=ann)", "(!(cn=ann))", "(&(cn=ann)(sn=abc))", "(|(cn=ann)(cn=bob)(age=5))", "(&(|(cn=ann)(age>=5))(!(sn=abc)))", "(|(!(cn=ann))(&(mixed>=a)(digits=12*)))",
		"(&(cn=a*n*)(sn=*abc*)(age<=100))", "(!(&(cn=ann)(|(age=*)(!(cn;x=bob)))))", "(|(zz=1)(&(cn=ann)(!(zz=1))))", "(&(cn=ann)(zz=*))", "(cn:caseExactMatch:=Ann)", "(:dn:caseIgnoreMatch:=ann)", "(cn~=ann)",
	}
	d := diceOf(9)
	all, none, some := plainSchema(), plainSchema(), plainSchema()
	for i := range all.Types {
		all.Types[i].Index |= api.IxHave
		none.Types[i].Index = 0
		some.Types[i].Index &= uint8(5 + 5*(i%2))
	}
	for _, plain := range []api.Schema{plainSchema(), all, none, some} {
		st := emptyStore(t, plain)
		for id := range uint64(60) {
			st.Add(id, d.name(), d.entry(st.Schema()))
		}
		for _, words := range texts {
			checkSearch(t, st, words, yes(st, asked(words), st.Ids())...)
			for _, a := range someGuesses {
				for _, b := range someGuesses[:3] {
					turn := 0
					checkGuesses(t, st, words, func(api.Fetch) float64 { return a }, func(api.Fetch) float64 { turn++; return []float64{a, b}[turn%2] })
				}
			}
		}
	}
}

func checkGuesses(t *testing.T, st *store.Store, words string, guesses ...func(api.Fetch) float64) {
	t.Helper()
	want := yes(st, asked(words), st.Ids())
	for _, guess := range guesses {
		p, e := compile.Whole(st, asked(words), guess)
		if e != api.OK {
			t.Fatal(e)
		}
		checkAnswer(t, st, p, 2, want)
	}
}

// The whole's P5: filters and programs that were written and read again find the same.
func TestThereAndBack(t *testing.T) {
	d := diceOf(10)
	again := 0
	for range 60 {
		st := d.store(t, 80)
		for range 10 {
			f := d.filter(st.Schema(), 1+d.Intn(4))
			p, e := compile.Whole(st, f, nil)
			if e != api.OK {
				t.Fatal(e)
			}
			want := yes(st, f, st.Ids())
			b, e := code.Encode(p)
			if e != api.OK {
				t.Fatal(e)
			}
			q, e, at := code.Decode(b)
			if e != api.OK {
				t.Fatal(e, at)
			}
			checkAnswer(t, st, q, 2, want)
			if words, e := text.Print(f); e == api.OK {
				again++
				if got := search(t, st, words); !slices.Equal(got, want) {
					t.Errorf("%s finds %v; want %v", words, got, want)
				}
			}
			if b, e := packet.Encode(f); e == api.OK {
				again++
				f, e, at := packet.Decode(b)
				if e != api.OK {
					t.Fatal(e, at)
				}
				checkRunIs(t, st, checkFinds(t, st, f, nil), want...)
			}
		}
	}
	if again < 500 {
		t.Errorf("only %d were read again", again)
	}
}

// The whole's P3: any program, read from any bytes, is refused by its check, or run without panic.
func TestProgramsOfAnyBytes(t *testing.T) {
	d := diceOf(11)
	st := d.store(t, 60)
	ran := 0
	for range 20000 {
		b, e := code.Encode(d.program(st, 1+d.Intn(5)))
		if e != api.OK {
			t.Fatal(e)
		}
		for range d.Intn(3) {
			b[d.Intn(len(b))] = oneOf(d, 0, 1, 2, 3, 4, 5, 6, byte(d.Intn(256)))
		}
		p, e, _ := code.Decode(b)
		want := modelCheck(st, p)
		ids, steps, wrong := vm.Run(st, p, 2)
		if wrong != want {
			t.Fatalf("%s: %v; want %v", shown(p), wrong, want)
		}
		if e == api.OK && want == api.OK {
			ran++
			if steps != len(p.Code) || !slices.Equal(ids, modelRun(t, st, p, func([][]uint64) {})) {
				t.Fatalf("%s: %v, %d", shown(p), ids, steps)
			}
		}
	}
	if ran < 3000 {
		t.Errorf("only %d were run", ran)
	}
}

// The whole's P14, from the text on: a filter over many records, by each number of workers.
func TestWholeByWorkers(t *testing.T) {
	st := crowd(t, 1000)
	for _, words := range []string{"(!(cn=ann))", "(|(name=ann)(sn=bob))", "(&(age>=500)(!(sn=Bob)))", "(cn~=an)", "(zz=1)", "(objectClass=person)", "(&(cn=a*)(age<=700))"} {
		f := asked(words)
		p := checkFinds(t, st, f, nil)
		want := fmt.Sprint(yes(st, f, st.Ids()))
		for workers := range api.MaxWorkers + 2 {
			if ids, _, e := vm.Run(st, p, workers); e != api.OK || fmt.Sprint(ids) != want {
				t.Errorf("%s by %d workers: %v, %v; want %v", words, workers, ids, e, want)
			}
		}
	}
}
