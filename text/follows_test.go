package text_test

import (
	"errors"
	"testing"

	"roster/api"
	"roster/filter"
	"roster/text"
)

// P10.4: what is written is read as it was.
func TestThereAndBack(t *testing.T) {
	d := diceOf(7)
	for range 5000 {
		f := d.filter(6)
		s, wrong := text.Print(f)
		if wrong != api.OK {
			t.Fatalf("Print(%s): %v", shown(f), wrong)
		}
		checkTaken(t, s, f)
		checkBack(t, d.loose(f))
	}
}

// P10.4: a value is any bytes.
func TestThereAndBackAnyBytes(t *testing.T) {
	d := diceOf(8)
	for range 3000 {
		value := make([]byte, 1+d.Intn(40))
		d.Read(value)
		for i := range value {
			if d.Intn(2) == 0 {
				value[i] = "\x00()*\\\xc3\xa9\xe2\x82\xac\xef\xbf\xbdab"[d.Intn(15)]
			}
		}
		v := string(value)
		at := d.Intn(len(v))
		for _, f := range []api.Filter{equal("a", v), item(api.FMore, "a", v), part("a", v[:at], v[at:]), part("a", "", "", v, v), rule("a", "b", v)} {
			s, wrong := text.Print(f)
			if wrong != api.OK {
				t.Fatalf("Print(%s): %v", shown(f), wrong)
			}
			checkTaken(t, s, f)
		}
	}
}

// P10.5: where a fault is told, it lies in the text or at its end; what stands ahead of an ErrSyntax is well begun; beside bounds, what is taken is what the grammar knows.
func TestLanguage(t *testing.T) {
	d := diceOf(9)
	counts := map[api.Errno]int{}
	for range 40000 {
		s := d.pick("", "(a", "(a=", "(&(a=b)", "(!(a=", "(:dn", "(a:b")
		for range d.Intn(8) {
			s += d.pick("(", ")", "(&", "(|", "(!", "(a", "(cn", "=", ">=", "~=", "<=", ":=", "*", ":", ":dn", ":b", "x", `\2a`, `\`, ";x", "1.2", "é", "\xe2\x82", "(a=b)", "(a=*)", "\x00")
		}
		s += d.pick("", ")", "))")
		f, err := text.Parse(s)
		_, known := modelFilter(s)
		if (err == nil) != known {
			t.Errorf("Parse(%s) is %s, %v", brief(s), shown(f), err)
		}
		var fault *api.Fault
		if !errors.As(err, &fault) {
			counts[api.OK]++
			continue
		}
		counts[fault.Code]++
		if fault.At < 0 || fault.At > len(s) || fault.Word != s[fault.At:min(fault.At+1, len(s))] {
			t.Errorf("Parse(%s) tells %v", brief(s), fault)
		}
		if fault.Code == api.ErrSyntax && !isBegun(s[:fault.At]) {
			t.Errorf("Parse(%s) tells %v", brief(s), fault)
		}
		if fault.Code == api.ErrShort && (fault.At != len(s) || !isBegun(s)) {
			t.Errorf("Parse(%s) tells %v", brief(s), fault)
		}
		checkFault(t, s, modelFault(s))
	}
	for _, code := range []api.Errno{api.OK, api.ErrShort, api.ErrUTF, api.ErrHex, api.ErrEscape, api.ErrSyntax} {
		if counts[code] < 30 {
			t.Errorf("%v only %d times", code, counts[code])
		}
	}
}

// P10.5: what is within the bounds is taken up to them, all of them at once.
func TestAllBoundsAtOnce(t *testing.T) {
	desc, value := filled("a", api.MaxText), filled("x", api.MaxText)
	f := around(api.FNot, api.MaxDepth-2, or(part(desc, value, value, value), rule(desc, desc, value)))
	s, wrong := text.Print(f)
	if wrong != api.OK {
		t.Fatalf("%v", wrong)
	}
	checkTaken(t, s, f)
	if wrong, nodes, depth := filter.Check(f); wrong != api.OK || nodes != 3 || depth != api.MaxDepth {
		t.Errorf("%v, %d, %d", wrong, nodes, depth)
	}
}
