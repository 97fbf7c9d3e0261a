package prep_test

import (
	"strings"
	"testing"

	"roster/api"
	"roster/prep"
)

func checkAdd(t *testing.T, a, b string) {
	t.Helper()
	want, wantOk := modelAdd(a, b)
	if got, ok := prep.Add(a, b); got != want || ok != wantOk {
		t.Errorf("Add(%s, %s) = %s, %v, want %s, %v", brief(a), brief(b), brief(got), ok, brief(want), wantOk)
	}
}

func TestAddExamples(t *testing.T) {
	for _, c := range []struct {
		a, b, want string
		ok         bool
	}{
		{"99", "1", "100", true}, {"5", "-7", "-2", true}, {"-5", "5", "0", true}, {"1", "01", "", false},
		{"0", "0", "0", true}, {"-1", "-99", "-100", true}, {"-100", "1", "-99", true}, {"100", "-1", "99", true},
		{"1000", "-999", "1", true}, {"-1000", "999", "-1", true}, {"0", "-3", "-3", true},
	} {
		if got, ok := prep.Add(c.a, c.b); got != c.want || ok != c.ok {
			t.Errorf("Add(%s, %s) = %q, %v", c.a, c.b, got, ok)
		}
	}
}

func TestAddRefusesWhatIsNoNumber(t *testing.T) {
	for _, wrong := range []string{"", "-", "-0", "+1", "01", "00", "-01", "--1", "1-", "1 ", " 1", "1.0", "a", "1a", "\xff", "٣", "0x1"} {
		for _, right := range []string{"0", "1", "-1", wrong} {
			for _, pair := range [][2]string{{wrong, right}, {right, wrong}} {
				if got, ok := prep.Add(pair[0], pair[1]); got != "" || ok {
					t.Errorf("Add(%q, %q) = %q, %v", pair[0], pair[1], got, ok)
				}
			}
		}
	}
}

// someNumbers are small ones, ones at the edges of 64 bits, and long ones through which a carry runs.
func someNumbers() []string {
	counts := []string{"1", "2", "5", "9", "10", "11", "90", "99", "100", "101", "999", "1000", "1001", "12345", "99999", "100000", "9223372036854775807", "9223372036854775808", "18446744073709551615", "18446744073709551616"}
	for _, n := range []int{19, 20, 21, 64, 300} {
		counts = append(counts, strings.Repeat("9", n), "1"+strings.Repeat("0", n), "8"+strings.Repeat("9", n), strings.Repeat("123456789", n), "1"+strings.Repeat("0", n)+"1")
	}
	out := []string{"0"}
	for _, count := range counts {
		out = append(out, count, "-"+count)
	}
	return out
}

func TestAddOfManyNumbers(t *testing.T) {
	for _, a := range someNumbers() {
		for _, b := range someNumbers() {
			checkAdd(t, a, b)
		}
	}
	for _, a := range rowsOf([]string{"0", "1", "9", "-"}, 4) {
		for _, b := range rowsOf([]string{"0", "1", "9", "-"}, 4) {
			checkAdd(t, a, b)
		}
	}
}

func TestAddOfTheLongestNumbers(t *testing.T) {
	nines := func(n int) string { return strings.Repeat("9", n) }
	power := func(noughts int) string { return "1" + strings.Repeat("0", noughts) }
	for _, c := range []struct {
		a, b, want string
		ok         bool
	}{
		{nines(api.MaxText - 1), "1", power(api.MaxText - 1), true},
		{nines(api.MaxText), "0", nines(api.MaxText), true},
		{nines(api.MaxText), "1", "", false},
		{nines(api.MaxText), nines(api.MaxText), "", false},
		{nines(api.MaxText), "-1", nines(api.MaxText-1) + "8", true},
		{power(api.MaxText - 1), "-1", nines(api.MaxText - 1), true},
		{"-" + nines(api.MaxText-2), "-1", "-" + power(api.MaxText-2), true},
		{"-" + nines(api.MaxText-1), "0", "-" + nines(api.MaxText-1), true},
		{"-" + nines(api.MaxText-1), "-1", "", false},
		{"-" + nines(api.MaxText-1), nines(api.MaxText - 1), "0", true},
		{"-" + nines(api.MaxText-1), nines(api.MaxText), "9" + strings.Repeat("0", api.MaxText-1), true},
		{nines(api.MaxText + 1), "0", "", false},
		{nines(api.MaxText + 1), "-" + nines(api.MaxText-1), "", false},
		{"-" + nines(api.MaxText), "1", "", false},
		{"-" + nines(api.MaxText), nines(api.MaxText), "", false},
	} {
		for _, pair := range [][2]string{{c.a, c.b}, {c.b, c.a}} {
			if got, ok := prep.Add(pair[0], pair[1]); got != c.want || ok != c.ok {
				t.Errorf("Add(%s, %s) = %s, %v", brief(pair[0]), brief(pair[1]), brief(got), ok)
			}
			checkAdd(t, pair[0], pair[1])
		}
	}
}

func TestKeyOfLongNumbers(t *testing.T) {
	for count, head := range map[int]string{255: "\x00\x00\xff", 256: "\x00\x01\x00", 65535: "\x00\xff\xff", 65536: "\x01\x00\x00"} {
		value := strings.Repeat("3", count)
		if got, ok := prep.Key(api.FormNumber, value); got != "\x70"+head+value || !ok {
			t.Errorf("Key of %d digits: %s, %v", count, brief(got), ok)
		}
	}
	for count, head := range map[int]string{255: "\xff\xff\x00", 256: "\xff\xfe\xff", 65535: "\xff\x00\x00"} {
		if got, ok := prep.Key(api.FormNumber, "-"+strings.Repeat("3", count)); got != "\x6e"+head+strings.Repeat("6", count) || !ok {
			t.Errorf("Key of - and %d digits: %s, %v", count, brief(got), ok)
		}
	}
	if got, ok := prep.Key(api.FormNumber, "-1234567890"); got != "\x6e\xff\xff\xf58765432109" || !ok {
		t.Errorf("%q, %v", got, ok)
	}
}
