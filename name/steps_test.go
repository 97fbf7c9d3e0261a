package name_test

import (
	"fmt"
	"math/rand"
	"regexp"
	"slices"
	"strconv"
	"strings"
	"testing"

	"roster/name"
)

var aHead = regexp.MustCompile(`\A(0|[1-9][0-9]{0,8})=(0|[1-9][0-9]{0,8}):`)

// modelSteps takes a row of steps apart; false, if it is none.
func modelSteps(key string) ([]string, bool) {
	var steps []string
	from, at, last := 0, 0, -1
	for from < len(key) {
		head := aHead.FindStringSubmatch(key[at:])
		if head == nil {
			return nil, false
		}
		place, _ := strconv.Atoi(head[1])
		size, _ := strconv.Atoi(head[2])
		at += len(head[0]) + size
		if place <= last || at >= len(key) || !strings.Contains("+;", key[at:at+1]) {
			return nil, false
		}
		last = place
		at++
		if key[at-1] == ';' {
			steps = append(steps, key[from:at])
			from, last = at, -1
		}
	}
	return steps, true
}

func checkSteps(t *testing.T, key string) {
	t.Helper()
	want, ok := modelSteps(key)
	if got := name.Steps(key); !slices.Equal(got, want) {
		t.Errorf("Steps(%s) = %.200q, want %.200q", brief(key), got, want)
	}
	if got := name.Lies(key, ""); got != (ok && key != "") {
		t.Errorf("Lies(%s, nothing) = %v", brief(key), got)
	}
	if name.Lies(key, key) {
		t.Errorf("Lies(%s, itself)", brief(key))
	}
}

func modelLies(key, above string) bool {
	steps, ok := modelSteps(key)
	up, okUp := modelSteps(above)
	return ok && okUp && len(steps) > len(up) && slices.Equal(steps[:len(up)], up)
}

func TestStepsExamples(t *testing.T) {
	if got := name.Steps("2=1:x;1=5:ada b;"); !slices.Equal(got, []string{"2=1:x;", "1=5:ada b;"}) {
		t.Errorf("%q", got)
	}
	for _, key := range []string{"2=1:x", "02=1:x;", ""} {
		if got := name.Steps(key); len(got) != 0 {
			t.Errorf("Steps(%q) = %q", key, got)
		}
	}
	if !name.Lies("2=1:x;1=5:ada b;", "2=1:x;") {
		t.Error("it lies below the upper part")
	}
	if name.Lies("2=1:x;", "2=1:x;") {
		t.Error("it does not lie below itself")
	}
	if !name.Lies("2=1:x;", "") {
		t.Error("it lies below nothing")
	}
	if name.Lies("", "") {
		t.Error("nothing does not lie below itself")
	}
}

func TestStepsOfRows(t *testing.T) {
	for _, steps := range [][]string{
		{"0=0:;"},
		{"1=1:;;"},
		{"1=2:a;;", "0=0:;"},
		{"1=1:a+2=0:;"},
		{"0=0:+1=0:+2=0:;"},
		{"9=0:+10=0:;"},
		{"10=0:;", "9=0:;"},
		{"1=0:;", "1=0:;", "0=0:;"},
		{"1=10:0123456789;"},
		{"1=8:1=1:a;;;;"},
		{"1=5:+2=0:+2=0:;"},
		{"999999999=0:;"},
		{"123456788=0:+123456789=1:x;"},
		{"5=1:\x00;", "5=2:\xff\xfe;"},
		{"1=3:;1=;", "2=1::;"},
	} {
		key := strings.Join(steps, "")
		if got := name.Steps(key); !slices.Equal(got, steps) {
			t.Errorf("Steps(%q) = %q", key, got)
		}
		checkSteps(t, key)
	}
}

func TestStepsOfWrongRows(t *testing.T) {
	for _, key := range []string{
		"x", ";", "+", "=", ":", "1", "1=", "1=0", "1=0:", "1=1:", "1=1:a", "1=1:;", "1=2:a;", "1=0:a;", "1=1:ab;", "1=3:a;",
		"01=0:;", "00=0:;", "1=00:;", "1=01:a;", "1=0001:a;", "=0:;", "1=:;", "1:0=;", "-1=0:;", "+1=0:;", "1=-0:;", "1=+1:a;", " 1=0:;", "1 =0:;", "1= 1:a;", "1=0:;\n", "1=0: ;",
		"1=0:+;", "1=0:+1=0:;", "2=0:+1=0:;", "1=0:+3=0:+2=0:;", "1=0:+2=0:", "1=0:,2=0:;", "1=0:;;", "1=0:;+", "1=0:;1", "1=0:;1=0", "1=0:;1=0:", ";1=0:;", "+1=0:;", "1=0:++2=0:;",
		"1234567890=0:;", "1=1234567890:;", "1=0000000001:a;", "1=999999999:a;", "1000000000=0:;", "18446744073709551617=0:;", "1=18446744073709551617:a;", "1=18446744073709551616:;",
		"1=0x1:a;", "1=1.0:a;", "a=0:;", "1=a:;", "1=1_0:0123456789;", "\u0661=0:;", "1=0:;\xff", "1=0:;02=0:;",
	} {
		if got := name.Steps(key); len(got) != 0 {
			t.Errorf("Steps(%q) = %q", key, got)
		}
		if name.Lies(key, "") || name.Lies("1=0:;1=0:;", key) || name.Lies(key+"1=0:;", key) {
			t.Errorf("Lies of %q", key)
		}
		checkSteps(t, key)
		checkSteps(t, "1=0:;"+key)
	}
}

func TestStepsOfAllShortTexts(t *testing.T) {
	for _, key := range rowsOf([]string{"0", "1", "=", ":", "+", ";"}, 7) {
		checkSteps(t, key)
	}
	for _, end := range rowsOf([]string{"2", "0", "=0:", "=1:", "+", ";"}, 5) {
		checkSteps(t, "1=0:"+end)
	}
}

func TestStepsOfMixedTexts(t *testing.T) {
	r := rand.New(rand.NewSource(9))
	for range 5000 {
		key := ""
		for range r.Intn(4) {
			key += mixedStep(r)
		}
		checkSteps(t, key)
		if key != "" {
			at := r.Intn(len(key))
			checkSteps(t, key[:at]+string("01=:+;a9"[r.Intn(8)])+key[at+r.Intn(2):])
			checkSteps(t, key[:at])
			checkSteps(t, key[at:])
		}
	}
}

func mixedStep(r *rand.Rand) string {
	var pairs []string
	place := r.Intn(3)
	for range 1 + r.Intn(3) {
		value := ""
		for range r.Intn(12) {
			value += string("01=:+;ab"[r.Intn(8)])
		}
		pairs = append(pairs, fmt.Sprintf("%d=%d:%s", place, len(value), value))
		place += 1 + r.Intn(9)
	}
	return strings.Join(pairs, "+") + ";"
}

func TestLiesOfMixedTexts(t *testing.T) {
	r := rand.New(rand.NewSource(10))
	parts := []string{"1=0:;", "1=1:a;", "1=2:1=;", "2=1:;;", "1=6:1=1:a;;", "1=0:+2=0:;", "1=0:", "+2=0:;", "0=0:;", ";", "1"}
	some := func() (key string) {
		for range r.Intn(5) {
			key += parts[r.Intn(len(parts))]
		}
		return key
	}
	for range 20000 {
		key, above := some(), some()
		if r.Intn(2) == 0 {
			key = above + key
		}
		if got, want := name.Lies(key, above), modelLies(key, above); got != want {
			t.Errorf("Lies(%q, %q) = %v", key, above, got)
		}
	}
}

// A beginning of the bytes is not always a beginning of the parts' rows.
func TestLiesOfTextsWithinTexts(t *testing.T) {
	key := "1=6:1=1:a;;2=1:x;"
	for at := range len(key) + 1 {
		want := at == 0 || at == len("1=6:1=1:a;;")
		if got := name.Lies(key, key[:at]); got != want {
			t.Errorf("Lies(%q, %q) = %v", key, key[:at], got)
		}
	}
	for _, above := range []string{"1=1:a;", "2=1:x;", "1=6:1=1:b;;", key + "2=1:x;"} {
		if name.Lies(key, above) {
			t.Errorf("Lies(%q, %q)", key, above)
		}
	}
	if name.Lies(key+"2", "1=6:1=1:a;;") || name.Lies(key+"2", "") {
		t.Error("what is no row of steps lies nowhere")
	}
}

func TestStepsOfLongTexts(t *testing.T) {
	value := strings.Repeat(";", 1<<20)
	steps := []string{"1=1048576:" + value + ";", "0=0:;"}
	if got := name.Steps(strings.Join(steps, "")); !slices.Equal(got, steps) {
		t.Errorf("%.100q", got)
	}
	if got := name.Steps("1=1048577:" + value + ";"); len(got) != 0 {
		t.Errorf("%.100q", got)
	}
	if got := name.Steps("1=1048575:" + value + ";"); len(got) != 0 {
		t.Errorf("%.100q", got)
	}
	if got := name.Steps(strings.Repeat("1=0:;", 100000)); len(got) != 100000 {
		t.Errorf("%d steps", len(got))
	}
	for _, key := range []string{strings.Repeat("1", 1<<20), strings.Repeat("1=", 1<<20), "1=" + strings.Repeat("0", 1<<20) + ":;"} {
		if got := name.Steps(key); len(got) != 0 {
			t.Errorf("Steps(%s): %d steps", brief(key), len(got))
		}
	}
}
