package packet_test

import (
	"math/rand"
	"slices"
	"testing"

	"roster/api"
	"roster/packet"
)

// P11.4: what is written is read as it was, with nil for lists of length 0; what is read loosely is written tightly, and read as the same.
func TestThereAndBack(t *testing.T) {
	d := diceOf(7)
	for range 5000 {
		f := d.filter(6)
		b, wrong := packet.Encode(f)
		if wrong != api.OK {
			t.Fatalf("Encode(%s): %v", shown(f), wrong)
		}
		checkTaken(t, b, f)
		loose := d.loose(f)
		checkTaken(t, loose, f)
		checkBack(t, loose, f)
		got, _, _ := packet.Decode(loose)
		checkNil(t, got)
	}
}

// checkNil: lists of length 0 are nil.
func checkNil(t *testing.T, f api.Filter) {
	t.Helper()
	if f.Kids != nil && len(f.Kids) == 0 || f.Middles != nil && len(f.Middles) == 0 {
		t.Errorf("%s has a list that is empty, not nil", shown(f))
	}
	for _, kid := range f.Kids {
		checkNil(t, kid)
	}
}

// P11.4: a value is any bytes.
func TestThereAndBackAnyBytes(t *testing.T) {
	d := diceOf(8)
	for range 3000 {
		value := make([]byte, 1+d.Intn(300))
		d.Read(value)
		v := string(value)
		at := d.Intn(len(v))
		for _, f := range []api.Filter{equal("a", v), item(api.FMore, "a", v), part("a", v[:at], v[at:]), part("a", "", "", v, v), rule("a", "b", v)} {
			b, wrong := packet.Encode(f)
			if wrong != api.OK {
				t.Fatalf("Encode(%s): %v", shown(f), wrong)
			}
			checkTaken(t, b, f)
		}
	}
}

// P11.5: items that are nearly right, at any depth, are taken or refused just as the form has it.
func TestLanguage(t *testing.T) {
	d := diceOf(9)
	counts := map[api.Errno]int{}
	for range 60000 {
		b := d.wild(tags[d.Intn(10)], 4)
		if d.Intn(40) == 0 {
			b = slices.Concat(b, []byte(d.pick("\x00", "\x87", "\x04\x00")))
		}
		counts[checkDecode(t, b)]++
	}
	for _, code := range []api.Errno{api.OK, api.ErrShort, api.ErrTag, api.ErrForm, api.ErrBool, api.ErrMore, api.ErrFilter} {
		if counts[code] < 100 {
			t.Errorf("%v only %d times", code, counts[code])
		}
	}
}

// P11.5: bytes that were a filter till something was done to them.
func TestBroken(t *testing.T) {
	d := diceOf(10)
	counts := map[api.Errno]int{}
	for range 4000 {
		whole := d.loose(d.filter(4))
		for range 12 {
			b := slices.Clone(whole)
			for range 1 + d.Intn(2) {
				b = d.broken(b)
			}
			counts[checkDecode(t, b)]++
		}
	}
	if counts[api.OK] < 100 || counts[api.ErrShort] < 100 || counts[api.ErrTag] < 100 || counts[api.ErrMore] < 100 || counts[api.ErrFilter] < 100 {
		t.Errorf("%v", counts)
	}
}

func (d dice) broken(b []byte) []byte {
	at := d.Intn(len(b) + 1)
	switch d.Intn(6) {
	case 0:
		return slices.Insert(b, at, byte(d.Intn(256)))
	case 1:
		return slices.Insert(b, at, tags[d.Intn(len(tags))])
	case 2:
		return append(b, byte(d.Intn(256)))
	}
	if at == len(b) {
		return b
	}
	switch d.Intn(4) {
	case 0:
		return slices.Delete(b, at, at+1)
	case 1:
		b[at] ^= 1 << d.Intn(8)
	case 2:
		b[at] = tags[d.Intn(len(tags))]
	default:
		b[at]++
	}
	return b
}

// P11.5: all short rows of bytes that tell much, and many of any.
func TestShortRows(t *testing.T) {
	telling := raw("00 01 02 04 1F 30 61 80 81 82 83 84 87 A0 A2 A3 A4 A9 FF")
	level := [][]byte{nil}
	for range 4 {
		var next [][]byte
		for _, row := range level {
			for _, b := range telling {
				next = append(next, slices.Concat(row, []byte{b}))
			}
		}
		level = next
		for _, row := range level {
			checkDecode(t, row)
		}
	}
	chance := rand.New(rand.NewSource(11))
	for range 100000 {
		b := make([]byte, chance.Intn(12))
		chance.Read(b)
		for i := range b {
			if chance.Intn(3) > 0 {
				b[i] = telling[chance.Intn(len(telling))]
			}
		}
		checkDecode(t, b)
		checkTake(t, b, chance.Intn(3), chance.Intn(14))
	}
}

// Where Take answers OK, Decode of just these bytes is the same; what stands around them does not count.
func TestTakeIsDecode(t *testing.T) {
	d := diceOf(12)
	for range 3000 {
		f, ahead, behind := d.filter(4), []byte(d.value()), []byte(d.value())
		b := slices.Concat(ahead, d.loose(f), behind)
		got, next, e, where := packet.Take(b, len(ahead), len(b))
		if e != api.OK || where != 0 || next != len(b)-len(behind) || !isSame(got, f) {
			t.Errorf("Take(%s, %d, ..) is %s, %d, %v at %d; want %s", brief(b), len(ahead), shown(got), next, e, where, shown(f))
		}
		checkTaken(t, b[len(ahead):next], f)
	}
}
