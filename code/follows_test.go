package code_test

import (
	"bytes"
	"slices"
	"testing"

	"roster/api"
	"roster/code"
)

// P18.4, P18.1 to P18.3: programs by chance, and such with something else at some place.
func TestPrograms(t *testing.T) {
	d := diceOf(1)
	counts, ats := map[api.Errno]int{}, map[int]int{}
	for range 30000 {
		p := d.program()
		if e := checkProgram(t, p); e != api.OK {
			t.Errorf("%v: %s", e, shown(p))
		}
		for range 1 + d.Intn(2) {
			p = d.spoilt(p)
			if len(p.Code) == 0 {
				break
			}
		}
		e := checkProgram(t, p)
		counts[e]++
		_, at := code.Check(p)
		ats[min(at, 9)]++
		if t.Failed() {
			return
		}
	}
	for _, e := range []api.Errno{api.OK, api.ErrCode, api.ErrStack} {
		if counts[e] < 1000 {
			t.Errorf("%d are %v", counts[e], e)
		}
	}
	for at := range 10 {
		if ats[at] < 100 {
			t.Errorf("%d are wrong at %d", ats[at], at)
		}
	}
}

// P18.4: bytes of programs with single ones changed, taken out, put in, cut off.
func TestChangedBytes(t *testing.T) {
	d := diceOf(2)
	counts := map[api.Errno]int{}
	for range 60000 {
		b := written(d.program()).b
		if len(b) > 400 {
			continue
		}
		for range 1 + d.Intn(2) {
			at, one := d.Intn(len(b)), byte(d.Intn(256))
			if d.Intn(2) == 0 {
				one = []byte{0, 1, 2, 3, 4, 5, 6, 7, 9, 10, 0x7f, 0x80, 0x81, 0xff}[d.Intn(14)]
			}
			switch d.Intn(6) {
			case 0:
				b = slices.Delete(b, at, at+1)
			case 1:
				b = slices.Insert(b, at, one)
			case 2:
				b = b[:at+1]
			default:
				b[at] = one
			}
		}
		e, _ := checkDecode(t, b)
		counts[e]++
		if t.Failed() {
			return
		}
	}
	for _, e := range []api.Errno{api.OK, api.ErrCode, api.ErrStack, api.ErrShort, api.ErrMore} {
		if counts[e] < 300 {
			t.Errorf("%d are %v", counts[e], e)
		}
	}
}

// P18.4: any bytes, behind the head, and of those alone that mean something.
func TestAnyBytes(t *testing.T) {
	d := diceOf(3)
	some := raw("00 00 00 01 01 01 02 03 04 05 06 07 08 09 61 80 FF")
	taken := 0
	for range 300000 {
		b := make([]byte, d.Intn(24))
		for i := range b {
			b[i] = some[d.Intn(len(some))]
			if d.Intn(50) == 0 {
				b[i] = byte(d.Intn(256))
			}
		}
		if d.Intn(20) > 0 {
			b = append(raw("52 50 01"), b...)
		}
		if e, _ := checkDecode(t, b); e == api.OK {
			taken++
		}
		if t.Failed() {
			return
		}
	}
	if taken < 20 {
		t.Errorf("only %d are taken", taken)
	}
}

// P18.4: single bytes of one program, each to every other value: what is taken is another program, and is written so.
func TestEveryByte(t *testing.T) {
	b := written(rich()).b
	taken := 0
	for at := range b {
		for other := range 256 {
			changed := slices.Clone(b)
			changed[at] = byte(other)
			if e, _ := checkDecode(t, changed); e != api.OK {
				continue
			}
			taken++
			if p, _, _ := code.Decode(changed); isSame(p, rich()) != bytes.Equal(changed, b) {
				t.Errorf("%d at %d is the same program", other, at)
			}
		}
	}
	if taken < 1000 {
		t.Errorf("only %d are taken", taken)
	}
}

// P18.5: a program that Check takes is gone through with real lists: none is ever missing, Depth is how many there are at most, one is left.
func TestNoListIsMissing(t *testing.T) {
	d := diceOf(4)
	deepest := map[int]int{}
	for range 30000 {
		p := d.program()
		if d.Intn(3) == 0 {
			p = d.spoilt(p)
		}
		if e, _ := code.Check(p); e != api.OK {
			continue
		}
		lists, most := [][]int{}, 0
		for _, i := range p.Code {
			switch i.Op {
			case api.OpNothing, api.OpAll, api.OpFetch:
				lists = append(lists, []int{})
			case api.OpTest:
				top := lists[len(lists)-1]
				lists[len(lists)-1] = append(top, i.Arg)
			default:
				a, b := lists[len(lists)-2], lists[len(lists)-1]
				lists = append(lists[:len(lists)-2], append(a, b...))
			}
			most = max(most, len(lists))
		}
		if len(lists) != 1 || most != code.Depth(p) {
			t.Errorf("%d lists at the end, %d at most; Depth %d: %s", len(lists), most, code.Depth(p), shown(p))
		}
		deepest[most]++
	}
	for most := 1; most < 6; most++ {
		if deepest[most] < 100 {
			t.Errorf("%d programs have %d lists at most", deepest[most], most)
		}
	}
}

// P18.4: two programs that are not the same are not written alike.
func TestNoTwoAlike(t *testing.T) {
	d := diceOf(5)
	seen := map[string]api.Program{}
	for range 20000 {
		p := d.program()
		b, e := code.Encode(p)
		if e != api.OK {
			t.Fatalf("%v: %s", e, shown(p))
		}
		if other, ok := seen[string(b)]; ok && !isSame(p, other) {
			t.Errorf("%s and %s are written alike", shown(p), shown(other))
		}
		seen[string(b)] = p
	}
}
