package packet_test

import (
	"bytes"
	"slices"
	"testing"

	"roster/api"
	"roster/ber"
	"roster/packet"
)

const mostOpen = api.MaxDepth + 16

// opened is a writer in which so many items are open.
func opened(t *testing.T, many int) *ber.Writer {
	t.Helper()
	w := ber.New()
	for range many {
		if e := w.Open(0, 16); e != api.OK {
			t.Fatal(e)
		}
	}
	return w
}

func bytesOf(t *testing.T, w *ber.Writer) []byte {
	t.Helper()
	b, e := w.Bytes()
	if e != api.OK {
		t.Fatal(e)
	}
	return b
}

// modelPut lays the bytes of a filter item by item, up to the first error.
func modelPut(w *ber.Writer, b []byte) api.Errno {
	for at, x := range ber.Each(b, 0, len(b)) {
		class, number := int8(b[at]/64), int(b[at]%32)
		if !x.Cons {
			if e := w.Text(class, number, string(b[x.From:x.To])); e != api.OK {
				return e
			}
			continue
		}
		if e := w.Open(class, number); e != api.OK {
			return e
		}
		if e := modelPut(w, b[x.From:x.To]); e != api.OK {
			return e
		}
		w.Close()
	}
	return api.OK
}

func TestPutNil(t *testing.T) {
	for _, f := range append(refused(), have("cn"), equal("cn", "a")) {
		if e := packet.Put(nil, f); e != api.ErrNil {
			t.Errorf("Put(nil, %s) is %v", shown(f), e)
		}
	}
}

// What filter.Check refuses leaves the writer as it was.
func TestPutRefused(t *testing.T) {
	w := ber.New()
	w.Text(0, 4, "ahead")
	w.Open(0, 16)
	for _, f := range refused() {
		_, want := packet.Encode(f)
		if e := packet.Put(w, f); e != want || e == api.OK {
			t.Errorf("Put(%s) is %v; want %v", shown(f), e, want)
		}
	}
	w.Close()
	if b := bytesOf(t, w); !bytes.Equal(b, slices.Concat(said(0x04, "ahead"), made(0x30))) {
		t.Errorf("% x", b)
	}
}

// Between other items, in other ones, one behind the other.
func TestPutBetween(t *testing.T) {
	d := diceOf(4)
	for range 1000 {
		w := ber.New()
		f, g := d.filter(4), d.filter(4)
		steps := []api.Errno{w.Int(0, 2, 5), packet.Put(w, f), w.Flag(0, 1, true), w.Open(2, 3), packet.Put(w, g), w.Open(0, 16), w.Close(), packet.Put(w, f), w.Close(), packet.Put(w, g), w.Text(0, 4, "x")}
		if slices.Max(steps) != api.OK || slices.Min(steps) != api.OK {
			t.Fatalf("%v", steps)
		}
		bf, bg := modelEncode(f), modelEncode(g)
		want := slices.Concat(raw("02 01 05"), bf, raw("01 01 FF"), made(0xa3, bg, raw("30 00"), bf), bg, said(0x04, "x"))
		b := bytesOf(t, w)
		if !bytes.Equal(b, want) {
			t.Errorf("Put(%s), Put(%s): %s; want %s", shown(f), shown(g), brief(b), brief(want))
		}
		if got, next, e, _ := packet.Take(b, 3, len(b)); e != api.OK || next != 3+len(bf) || !isSame(got, f) {
			t.Errorf("Take of what was put is %s, %d, %v", shown(got), next, e)
		}
	}
}

// A writer in which items are open, up to as many as may be.
func TestPutDepth(t *testing.T) {
	for f, needs := range map[*api.Filter]int{
		ptr(have("cn")): 0, ptr(equal("cn", "a")): 1, ptr(rule("", "r", "a")): 1, ptr(part("cn", "a", "")): 2, ptr(not(have("cn"))): 1, ptr(not(not(have("cn")))): 2, ptr(and(have("cn"), or(part("cn", "", "a")))): 4, ptr(and(part("cn", "a", ""), have("cn"))): 3,
		ptr(around(api.FNot, 60, have("cn"))): 60, ptr(around(api.FOr, api.MaxDepth-1, part("cn", "a", ""))): api.MaxDepth + 1,
	} {
		for many := range mostOpen + 1 {
			w := opened(t, many)
			e := packet.Put(w, *f)
			if many+needs > mostOpen {
				if e != api.ErrDeep {
					t.Errorf("Put(%s) with %d open is %v", shown(*f), many, e)
				}
				continue
			}
			for range many {
				w.Close()
			}
			if b := bytesOf(t, w); e != api.OK || !bytes.Equal(b, wrapped(0x30, many, modelEncode(*f))) {
				t.Errorf("Put(%s) with %d open is %v, %s", shown(*f), many, e, brief(b))
			}
		}
	}
}

func ptr(f api.Filter) *api.Filter { return &f }

// roomFor is a writer that has room for so many bytes yet, and in which then so many items are opened.
func roomFor(t *testing.T, free, open int) *ber.Writer {
	t.Helper()
	const most, head = 1 << 26, 6
	w := ber.New()
	if e := w.Text(0, 4, filled("x", most-free-head)); e != api.OK {
		t.Fatal(e)
	}
	for range open {
		w.Open(0, 16)
	}
	return w
}

// checkRoom holds Put against a writer that is handed the same items one behind the other.
func checkRoom(t *testing.T, f api.Filter, free, open int) api.Errno {
	t.Helper()
	want := modelPut(roomFor(t, free, open), modelEncode(f))
	if e := packet.Put(roomFor(t, free, open), f); e != want {
		t.Errorf("Put(%s) with room for %d, %d open, is %v; want %v", shown(f), free, open, e, want)
	}
	return want
}

// The first error of the writer, from the filter's front on, ends it.
func TestPutRoom(t *testing.T) {
	for _, f := range []api.Filter{have("cn"), and(have("a"), ruleDn("d", "r", "v"), part("cn", "a", "b", "c")), not(not(or(equal("a", filled("x", 130)))))} {
		size := len(modelEncode(f))
		for _, free := range []int{0, size / 2, size - 1, size, size + 1} {
			if e := checkRoom(t, f, free, 0); e == api.OK != (free >= size) || e != api.OK && e != api.ErrLong {
				t.Errorf("%v with room for %d of %d", e, free, size)
			}
		}
		if e := checkRoom(t, f, size+3, 2); e != api.ErrLong {
			t.Errorf("%v with room for all but one", e)
		}
		if e := checkRoom(t, f, size+12, 2); e != api.OK {
			t.Errorf("%v with room for all", e)
		}
	}
	// Too deep or too long, whichever comes first from the front.
	long := have(filled("a", 300))
	for _, c := range []struct {
		f    api.Filter
		free int
		want api.Errno
	}{
		{and(long, or(have("a"))), 600, api.ErrLong}, {and(or(have("a")), long), 600, api.ErrDeep}, {and(long, or(have("a"))), 700, api.ErrDeep}, {and(have("a"), long), 600, api.ErrLong}, {and(have("a"), long), 700, api.OK},
	} {
		if e := checkRoom(t, c.f, c.free, mostOpen-1); e != c.want {
			t.Errorf("Put(%s) with room for %d is %v; want %v", shown(c.f), c.free, e, c.want)
		}
	}
}

// Put goes beyond MaxBytes, as the writer does.
func TestPutMoreThanMaxBytes(t *testing.T) {
	w := ber.New()
	f := full(api.MaxBytes + 1)
	if e := packet.Put(w, f); e != api.OK || !bytes.Equal(bytesOf(t, w), modelEncode(f)) {
		t.Errorf("%v", e)
	}
	long := filled("\xff", api.MaxText)
	if e := packet.Put(ber.New(), or(slices.Repeat([]api.Filter{equal("a", long)}, 1000)...)); e != api.OK {
		t.Errorf("%v", e)
	}
	if e := packet.Put(ber.New(), or(slices.Repeat([]api.Filter{equal("a", long)}, 1<<10)...)); e != api.ErrLong {
		t.Errorf("%v", e)
	}
}
