package name_test

import (
	"math/rand"
	"slices"
	"strings"
	"testing"

	"roster/api"
	"roster/name"
)

// P6.6: Parse of what Print wrote is the name.
func TestPrintedNamesAreReadAsTheyWere(t *testing.T) {
	r := rand.New(rand.NewSource(12))
	for range 3000 {
		n := someName(r, someWords, someValues)
		checkThereAndBack(t, n)
	}
	for b := range 256 {
		for c := range 256 {
			checkThereAndBack(t, named(pairs("cn", string([]byte{byte(b), byte(c)}))))
		}
	}
	for _, value := range rowsOf([]string{" ", "#", `\`, "2", "c", ",", "=", "\xc3", "\xa9"}, 4) {
		checkThereAndBack(t, named(pairs("a", value, "b", value), pairs("1.2", value)))
	}
	checkThereAndBack(t, named(slices.Repeat([][]string{slices.Repeat(pairs("a", " \xff "), 8)}, 64)...))
	checkThereAndBack(t, named(pairs("a", strings.Repeat("\xff", 21844))))
	checkThereAndBack(t, named(pairs("a", strings.Repeat(",", 32767))))
	checkThereAndBack(t, named(pairs("a", strings.Repeat("x", 65534))))
}

func checkThereAndBack(t *testing.T, n api.Name) {
	t.Helper()
	s, e := name.Print(n)
	if e != api.OK {
		t.Fatalf("Print(%.200q): %v", n, e)
	}
	if back, err := name.Parse(s); err != nil || !same(back, n) {
		t.Errorf("%.200q is printed as %s, and read as %.200q, %v", n, brief(s), back, err)
	}
}

// P6.6: what Print writes of what Parse read is read as the same name; and written again it is the same text.
func TestReadTextsArePrintedAndReadAgain(t *testing.T) {
	r := rand.New(rand.NewSource(13))
	pieces := []string{"x", "=", "#", " ", `\ `, `\,`, `\2c`, `\FF`, `\c3\A9`, "é", "\xff", "\x01", ",ou=", "+OU=", ",1.2=", `\\`, `\"`}
	taken := 0
	for range 6000 {
		text := "cn="
		for range r.Intn(9) {
			text += pieces[r.Intn(len(pieces))]
		}
		n, err := name.Parse(text)
		if err != nil {
			continue
		}
		taken++
		printed, e := name.Print(n)
		if e != api.OK {
			t.Fatalf("Print of %q: %v", text, e)
		}
		again, err := name.Parse(printed)
		if err != nil || !same(again, n) {
			t.Errorf("%q: %q, %v", text, again, err)
		}
		if twice, e := name.Print(again); twice != printed || e != api.OK {
			t.Errorf("%q: %q and %q, %v", text, printed, twice, e)
		}
		if len(printed) > 3*len(text) {
			t.Errorf("%q needs %d bytes", text, len(printed))
		}
	}
	if taken < 1000 {
		t.Errorf("only %d texts were taken", taken)
	}
}

func TestReadTextsMayBeTooLongToPrint(t *testing.T) {
	for _, sign := range []string{"\x01", "\xff", "\x7f"} {
		n := mustParse(t, "a="+strings.Repeat(sign, 21844))
		if s, e := name.Print(n); len(s) != 2+3*21844 || e != api.OK {
			t.Errorf("%s, %v", brief(s), e)
		}
		refusedPrint(t, mustParse(t, "a="+strings.Repeat(sign, 21845)), api.ErrLong)
		refusedPrint(t, mustParse(t, "a="+strings.Repeat(sign, 65534)), api.ErrLong)
	}
}

// P6.7: which names have the same key, and what lies below what.
func TestKeysTellWhichNamesAreTheSame(t *testing.T) {
	s := testSchema(t)
	r := rand.New(rand.NewSource(14))
	words := []string{"cn", "commonName", "2.5.4.3", "OU", "ou", "sn", "photo", "s", "seeAlso", "exact"}
	values := []string{"a", "A", " a ", "b", "cn=a", "CN=A", "ou=b+cn=a", "cn=a+ou=b", "a b", "A  B", "1=1:a;", "a;1=1:a"}
	var names []api.Name
	var keys []string
	for len(names) < 500 {
		n := someName(r, words, values)
		key, e := name.Key(s, n)
		if e == api.OK {
			names, keys = append(names, n), append(keys, key)
		}
	}
	alike, below := 0, 0
	for i, a := range names {
		for j, b := range names {
			if got, want := keys[i] == keys[j], areAlike(a.Rdns, b.Rdns); got != want {
				t.Fatalf("%q and %q: %q, %q", a, b, keys[i], keys[j])
			} else if want && i != j {
				alike++
			}
			more := len(a.Rdns) - len(b.Rdns)
			want := more > 0 && areAlike(a.Rdns[more:], b.Rdns)
			if got := name.Lies(keys[i], keys[j]); got != want {
				t.Fatalf("%q below %q: %v", a, b, got)
			} else if want && len(b.Rdns) > 0 {
				below++
			}
		}
		if steps := name.Steps(keys[i]); len(steps) != len(a.Rdns) {
			t.Fatalf("%q: %q", a, steps)
		}
	}
	if alike < 20 || below < 20 {
		t.Errorf("only %d are alike, %d below another one", alike, below)
	}
}

// areAlike looks for each pair of the one part in the other.
func areAlike(a, b []api.Rdn) bool {
	p := plainSchema()
	return slices.EqualFunc(a, b, func(a, b api.Rdn) bool {
		if len(a.Avas) != len(b.Avas) {
			return false
		}
		for _, x := range a.Avas {
			place := typePlace(p, x.Type)
			key, _ := modelValueKey(p, place, x.Value)
			if !slices.ContainsFunc(b.Avas, func(y api.Ava) bool {
				other, _ := modelValueKey(p, place, y.Value)
				return typePlace(p, y.Type) == place && other == key
			}) {
				return false
			}
		}
		return true
	})
}

// P6.7: a name's steps are the keys of its parts, from the topmost on, and it lies below each name above it.
func TestStepsOfKeys(t *testing.T) {
	s := testSchema(t)
	n := mustParse(t, `cn=A+ou=b\;c,s=cn\=x\,ou\=y,photo=\;`)
	key := keyOf(t, s, n)
	steps := name.Steps(key)
	slices.Reverse(steps)
	for k, r := range n.Rdns {
		if part := keyOf(t, s, api.Name{Rdns: []api.Rdn{r}}); steps[k] != part {
			t.Errorf("%d: %q, want %q", k, steps[k], part)
		}
	}
	for up, ok := name.Above(n); ok; up, ok = name.Above(up) {
		if !name.Lies(key, keyOf(t, s, up)) || name.Lies(keyOf(t, s, up), key) {
			t.Errorf("below %q", up)
		}
	}
	if !name.Lies(keyOf(t, s, name.Under(rdn("sn", "z"), n)), key) {
		t.Errorf("what is laid under it does not lie below")
	}
}
