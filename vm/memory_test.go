package vm_test

import (
	"bytes"
	"fmt"
	"runtime"
	"slices"
	"sync"
	"sync/atomic"
	"testing"
	"time"

	"roster/api"
	"roster/code"
	"roster/vm"
)

// spoilIds and the others write over lists, the room behind their ends too.
func spoilIds(ids []uint64) {
	for i := range ids[:cap(ids)] {
		ids[:cap(ids)][i] = 4711
	}
}

func spoilStack(stack [][]uint64) {
	for _, ids := range stack {
		spoilIds(ids)
	}
	for i := range stack[:cap(stack)] {
		stack[:cap(stack)][i] = []uint64{4711}
	}
}

func spoilTexts(texts []string) {
	for i := range texts[:cap(texts)] {
		texts[:cap(texts)][i] = "spoilt"
	}
}

func spoilFilter(f api.Filter) {
	for _, kid := range f.Kids {
		spoilFilter(kid)
	}
	spoilTexts(f.Middles)
	for i := range f.Kids[:cap(f.Kids)] {
		f.Kids[:cap(f.Kids)][i] = api.Filter{Kind: api.FNot, Desc: "spoilt"}
	}
}

func spoilProgram(p api.Program) {
	for _, c := range p.Consts {
		spoilTexts(c.Fetch.Pieces)
		spoilFilter(c.Filter)
	}
	for i := range p.Consts[:cap(p.Consts)] {
		p.Consts[:cap(p.Consts)][i] = api.Const{Test: true}
	}
	for i := range p.Code[:cap(p.Code)] {
		p.Code[:cap(p.Code)][i] = api.Instr{Op: 99, Arg: 99}
	}
}

// wholeFilter and wholeProgram show all, with the room behind the ends of lists.
func wholeFilter(f api.Filter) string {
	text := fmt.Sprintf("%d %q %q %q %q %q %v %d of %q", f.Kind, f.Desc, f.Value, f.Start, f.End, f.Rule, f.Dn, len(f.Middles), f.Middles[:cap(f.Middles)])
	for _, kid := range f.Kids[:cap(f.Kids)] {
		text += fmt.Sprintf(" %d(%s)", len(f.Kids), wholeFilter(kid))
	}
	return text
}

func wholeProgram(p api.Program) string {
	text := fmt.Sprintf("%d of %v, %d of", len(p.Code), p.Code[:cap(p.Code)], len(p.Consts))
	for _, c := range p.Consts[:cap(p.Consts)] {
		q := c.Fetch
		text += fmt.Sprintf(" {%v %d %d %q %d of %q %s}", c.Test, q.Kind, q.Type, q.Key, len(q.Pieces), q.Pieces[:cap(q.Pieces)], wholeFilter(c.Filter))
	}
	return text
}

// roomyProgram has marks in the room behind the ends of all its lists, some of which stand there more than once.
func roomyProgram() api.Program {
	mark := api.Filter{Kind: 88, Desc: "mark"}
	room := func(kids ...api.Filter) []api.Filter { return append(kids, mark, mark)[:len(kids)] }
	piece := api.Filter{Kind: api.FPart, Desc: "cn", Start: "a", Middles: append([]string{"n"}, "mark")[:1]}
	bob := asked("(cn=Bob)")
	bob.Kids, bob.Middles = room(), append([]string{}, "mark")[:0]
	kids := room(piece, bob, api.Filter{Kind: api.FNot, Kids: room(asked("(cn=x)"))})
	either := api.Const{Test: true, Filter: api.Filter{Kind: api.FOr, Kids: kids}}
	both := api.Const{Test: true, Filter: api.Filter{Kind: api.FAnd, Kids: kids}}
	part := get(api.GetPart, tCn, "", "", "nn", "mark")
	part.Fetch.Pieces = part.Fetch.Pieces[:2]
	consts := append([]api.Const{part, either, keyed("ann"), both, part}, api.Const{Test: true}, api.Const{Fetch: api.Fetch{Key: "mark"}})[:5]
	instrs := append([]api.Instr{opAll, tested(1), fetched(0), opAnd, tested(3), fetched(4), fetched(2), opLess, opOr}, op(88), op(88))[:9]
	return program(consts, instrs...)
}

// R3: a program is not changed by those who run it, nor is the room behind its ends; nor is the store.
func TestNothingIsChanged(t *testing.T) {
	st := people(t)
	p, before := roomyProgram(), told(st)
	if e, at := code.Check(p); e != api.OK {
		t.Fatal(e, at)
	}
	want := wholeProgram(roomyProgram())
	checkRunIs(t, st, p, 7)
	checkRunIs(t, st, written("*a-t"), 9)
	for _, wrong := range wrongPrograms()[api.ErrStack] {
		checkRefused(t, st, wrong, api.ErrStack)
	}
	if got := wholeProgram(p); got != want {
		t.Errorf("%s; want %s", got, want)
	}
	if got := told(st); got != before {
		t.Errorf("%s; it was %s", got, before)
	}
	checkRunIs(t, st, written("a"), 3, 7)
}

// R3: the program is the caller's, who may write over it behind New and behind Run.
func TestProgramIsWrittenOver(t *testing.T) {
	st := people(t)
	for steps := range len(roomyProgram().Code) {
		p, same := roomyProgram(), roomyProgram()
		m, e := vm.New(st, p)
		if e != api.OK {
			t.Fatal(e)
		}
		at := 0
		modelRun(t, st, same, func(stack [][]uint64) {
			if at == steps {
				spoilProgram(p)
			}
			if at > 0 {
				checkStep(t, m, at == len(same.Code))
			}
			checkStack(t, m, at, stack)
			at++
		})
		p = roomyProgram()
		first, _, _ := vm.Run(st, p, 3)
		spoilProgram(p)
		checkRunIs(t, st, roomyProgram(), first...)
	}
}

// R3: what Run and Stack answer is new, written over it shows nowhere.
func TestAnswersAreWrittenOver(t *testing.T) {
	st := people(t)
	for _, text := range []string{"*", "a", "0", "*t", "at", "ab|", "*a&", "*0-", "0*|"} {
		p := written(text)
		want := slices.Clone(checkRun(t, st, p))
		for range 3 {
			first, _, _ := vm.Run(st, p, 1)
			second, _, _ := vm.Run(st, p, 2)
			spoilIds(first)
			if !slices.Equal(second, want) {
				t.Errorf("%s: %v; want %v", text, second, want)
			}
			spoilIds(second)
			checkRunIs(t, st, p, want...)
		}
	}
	for _, text := range []string{"*", "*a**a-|&&", "aaaa&&&", "*t*t|0*|-", "00*|&"} {
		p := written(text)
		m, _ := vm.New(st, p)
		other, _ := vm.New(st, p)
		at := 0
		modelRun(t, st, p, func(stack [][]uint64) {
			if at > 0 {
				m.Step()
				other.Step()
			}
			checkStack(t, m, at, stack)
			checkStack(t, other, at, stack)
			first, second := m.Stack(), m.Stack()
			spoilStack(first)
			if !slices.EqualFunc(second, stack, slices.Equal[[]uint64]) {
				t.Errorf("%s: %v; want %v", text, second, stack)
			}
			spoilStack(second)
			checkStack(t, m, at, stack)
			at++
		})
	}
	if got, want := told(st), told(people(t)); got != want {
		t.Errorf("%s; want %s", got, want)
	}
}

// R3: no two lists of one stack share memory, the room behind their ends neither.
func TestStackSharesNothing(t *testing.T) {
	m, _ := vm.New(crowd(t, 50), written("***a*ab|0|"+"&&&&&"))
	for last := false; !last; last, _ = m.Step() {
		taken := map[*uint64]bool{}
		for range 3 {
			for _, ids := range m.Stack() {
				for i := range ids[:cap(ids)] {
					cell := &ids[:cap(ids)][i]
					if taken[cell] {
						t.Fatalf("at %d two lists share memory", m.At())
					}
					taken[cell] = true
				}
			}
		}
	}
}

// workersNow counts the goroutines that the package has started and that have not ended; all stand still while they are counted.
func workersNow(room []byte) int {
	return bytes.Count(room[:runtime.Stack(room, true)], []byte("created by roster/vm."))
}

// P20.1: at most as many workers as are asked for; none is left behind Run, nor behind a machine's steps.
func TestWorkersEnd(t *testing.T) {
	st := crowd(t, 600)
	p := program([]api.Const{test("(|(cn=ann)(&(sn=Bob)(!(age>=100)))(cn=a*n*)(mixed=x))")}, opAll, tested(0))
	want := modelRun(t, st, p, func([][]uint64) {})
	room := make([]byte, 1<<20)
	ended := func() {
		t.Helper()
		// One that has told that it is done may still be on its way out.
		for end := time.Now().Add(20 * time.Second); workersNow(room) > 0; runtime.Gosched() {
			if time.Now().After(end) {
				t.Fatalf("%d workers are left", workersNow(room))
			}
		}
	}
	for _, workers := range []int{-5, 0, 1, 2, 3, api.MaxWorkers, api.MaxWorkers + 1, 1000} {
		bound := min(max(workers, 1), api.MaxWorkers)
		most := 0
		for tries := 0; tries < 3 || most < min(bound, 2) && tries < 200; tries++ {
			var over atomic.Bool
			var group sync.WaitGroup
			group.Go(func() {
				defer over.Store(true)
				if ids, _, _ := vm.Run(st, p, workers); !slices.Equal(ids, want) {
					t.Errorf("%v; want %v", ids, want)
				}
			})
			for !over.Load() {
				most = max(most, workersNow(room))
			}
			group.Wait()
			ended()
		}
		if most < min(bound, 2) || most > bound {
			t.Errorf("%d workers for %d", most, workers)
		}
	}
	m, _ := vm.New(st, p)
	m.Step()
	m.Step()
	ended()
}

// R2, R10: many run programs over one store at the same time, each with a machine of its own too.
func TestManyAtOneTime(t *testing.T) {
	d := diceOf(1)
	st := d.store(t, 300)
	var programs []api.Program
	for range 30 {
		programs = append(programs, d.program(st, 1+d.Intn(10)))
	}
	var group sync.WaitGroup
	for range 6 {
		group.Go(func() {
			for _, p := range programs {
				checkRun(t, st, p)
			}
		})
	}
	group.Wait()
}
