package vm_test

import (
	"slices"
	"testing"

	"roster/api"
	"roster/code"
	"roster/store"
	"roster/vm"
)

// runnable is a program by chance that the store can run.
func (d dice) runnable(st *store.Store, long int) api.Program {
	for {
		if p := d.program(st, long); modelCheck(st, p) == api.OK {
			return p
		}
	}
}

// P20.1 to P20.3: programs and stores by chance, some of which are refused, held against the chapter's words.
func TestByChance(t *testing.T) {
	d := diceOf(2)
	seen := map[api.Errno]int{}
	hits, deepest := 0, 0
	for range 250 {
		st := d.store(t, d.Intn(120))
		for range 12 {
			p := d.program(st, 1+d.Intn(25))
			if d.Intn(3) == 0 {
				p = d.spoilt(p)
			}
			if len(checkRun(t, st, p)) > 0 {
				hits++
			}
			seen[modelCheck(st, p)]++
			deepest = max(deepest, code.Depth(p))
		}
		if t.Failed() {
			return
		}
	}
	if hits < 500 || deepest < 5 || seen[api.OK] < 1000 || seen[api.ErrArg] < 50 || seen[api.ErrCode] < 50 || seen[api.ErrStack] < 50 {
		t.Errorf("%d found something, %d lists at most, %v", hits, deepest, seen)
	}
}

// P20.3: whatever program it is, it is refused, or ends behind as many steps as it has instructions.
func TestAnyProgram(t *testing.T) {
	d := diceOf(3)
	ran := 0
	st := d.store(t, 60)
	for range 20000 {
		var p api.Program
		for range d.Intn(3) {
			p.Consts = append(p.Consts, oneOf(d, keyed("ann"), test("(cn=ann)"), test("(!(zz=1))"), get(api.GetHave, tCn, ""), api.Const{}, api.Const{Test: true}))
		}
		for range d.Intn(7) {
			p.Code = append(p.Code, api.Instr{Op: uint8(d.Intn(8)), Arg: oneOf(d, 0, 0, 0, 0, 0, 1, 2, -1)})
		}
		want := modelCheck(st, p)
		ids, steps, e := vm.Run(st, p, d.Intn(20)-1)
		m, wrong := vm.New(st, p)
		if e != want || wrong != want || (m == nil) != (want != api.OK) || e != api.OK && (len(ids) > 0 || steps != 0) {
			t.Fatalf("%s: %v, %d, %v; %v; want %v", shown(p), ids, steps, e, wrong, want)
		}
		if e != api.OK {
			continue
		}
		ran++
		for at := 1; at <= len(p.Code); at++ {
			if last, e := m.Step(); last != (at == len(p.Code)) || e != api.OK || m.At() != at || len(m.Stack()) > code.Depth(p) {
				t.Fatalf("%s: at %d, %v, %v", shown(p), at, last, e)
			}
		}
		if stack := m.Stack(); len(stack) != 1 || !slices.Equal(stack[0], ids) || steps != len(p.Code) {
			t.Fatalf("%s: %v; want %v, %d steps", shown(p), stack, ids, steps)
		}
	}
	if ran < 100 {
		t.Errorf("only %d were run", ran)
	}
}

// P20.4: every number of workers against one worker, over a list that is much longer than what one of them takes.
func TestAnyWorkers(t *testing.T) {
	d := diceOf(4)
	st := emptyStore(t, plainSchema())
	for id := range uint64(250) {
		for wrong := api.ErrLack; wrong != api.OK; {
			wrong, _ = st.Add(id*id, d.name(), d.entry(st.Schema()))
		}
	}
	hits := 0
	for range 15 {
		filters := []api.Const{{Test: true, Filter: d.filter(st.Schema(), 3)}, {Test: true, Filter: d.filter(st.Schema(), 3)}}
		for _, p := range []api.Program{d.runnable(st, 12), program(filters, opAll, tested(0)), program(filters, opAll, opAll, tested(0), opLess, tested(1))} {
			want, _, _ := vm.Run(st, p, 1)
			hits += len(want)
			for workers := -1; workers <= api.MaxWorkers+2; workers++ {
				checkAnswer(t, st, p, workers, want)
			}
			for range 5 {
				checkAnswer(t, st, p, api.MaxWorkers, want)
			}
		}
	}
	if hits < 1000 {
		t.Errorf("only %d are found", hits)
	}
}

// P20.5: And and Or may have their lists changed about; Less may not.
func TestListsChangedAbout(t *testing.T) {
	d := diceOf(5)
	differ := 0
	for range 40 {
		st := d.store(t, 100)
		for range 6 {
			a, b := d.runnable(st, 1+d.Intn(6)), d.runnable(st, 1+d.Intn(6))
			for _, last := range []api.Instr{opAnd, opOr} {
				want := checkRun(t, st, joined(a, b, last))
				checkAnswer(t, st, joined(b, a, last), 3, want)
			}
			left, right := checkRun(t, st, joined(a, b, opLess)), checkRun(t, st, joined(b, a, opLess))
			if !slices.Equal(left, right) {
				differ++
			}
			for _, id := range left {
				if slices.Contains(right, id) {
					t.Errorf("%d is in both", id)
				}
			}
		}
	}
	if differ < 50 {
		t.Errorf("only %d differ", differ)
	}
}

// P20.5: what Run answers hangs on the records, not on how they came to be there.
func TestHangsOnTheRecordsAlone(t *testing.T) {
	d := diceOf(6)
	for range 40 {
		st := d.store(t, 120)
		other := store.New(st.Schema())
		ids := st.Ids()
		for _, at := range d.Perm(len(ids)) {
			r, _ := st.Get(ids[at])
			if e, where := other.Add(r.Id, r.Name, r.Entry); e != api.OK {
				t.Fatal(e, where)
			}
		}
		for range 8 {
			p := d.program(st, 1+d.Intn(12))
			want := checkRun(t, st, p)
			if modelCheck(st, p) == api.OK {
				checkAnswer(t, other, p, 2, want)
				checkAnswer(t, st.Clone(), p, 4, want)
			} else {
				checkRefused(t, other, p, api.ErrArg)
			}
		}
	}
}

// P20.5: a fetch that the one store can and the other one cannot is the only thing of the indexes that counts.
func TestHangsOnWhatCanBeFetched(t *testing.T) {
	bare := plainSchema()
	for i := range bare.Types {
		bare.Types[i].Index = 0
	}
	d := diceOf(7)
	refused := 0
	for range 30 {
		st, without := emptyStore(t, plainSchema()), emptyStore(t, bare)
		for id := range uint64(20) {
			n, e := d.name(), d.entry(st.Schema())
			st.Add(id, n, e)
			without.Add(id, n, e)
		}
		for range 20 {
			p := d.runnable(st, 1+d.Intn(8))
			want := checkRun(t, st, p)
			if slices.ContainsFunc(p.Code, func(i api.Instr) bool { return i.Op == api.OpFetch }) {
				refused++
				checkRefused(t, without, p, api.ErrArg)
			} else {
				checkRunIs(t, without, p, want...)
			}
		}
	}
	if refused < 100 {
		t.Errorf("only %d are refused", refused)
	}
}
