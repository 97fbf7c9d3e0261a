package text_test

import (
	"testing"

	"roster/api"
	"roster/text"
)

func checkDesc(t *testing.T, s string) {
	t.Helper()
	want := len(s) <= api.MaxText && ofDesc.MatchString(s)
	if text.Desc(s) != want {
		t.Errorf("Desc(%s) is %v", brief(s), !want)
	}
}

func TestDescExamples(t *testing.T) {
	for s, want := range map[string]bool{"cn;lang-de": true, "2.5.4.3": true, "25": false, "cn;": false, "": false} {
		if text.Desc(s) != want {
			t.Errorf("Desc(%s) is %v", s, !want)
		}
		checkDesc(t, s)
	}
}

func TestDescAllShort(t *testing.T) {
	level := []string{""}
	for range 5 {
		var next []string
		for _, s := range level {
			for _, sign := range []string{"a", "Z", "0", "7", ".", "-", ";", " ", "\xff"} {
				next = append(next, s+sign)
			}
		}
		level = next
		for _, s := range level {
			checkDesc(t, s)
		}
	}
}

func TestDescEachByte(t *testing.T) {
	for b := range 256 {
		c := string([]byte{byte(b)})
		for _, s := range []string{c, c + "a", "a" + c, "a" + c + "a", "a;" + c, "a;b" + c, "a;b" + c + "c", "1" + c, "1" + c + "2", "1." + c, "1.2" + c, "1.2;" + c, c + ".1", c + ";a"} {
			checkDesc(t, s)
		}
	}
}

// It may have as many options as there is room for, dn too is a type's word.
func TestDescWords(t *testing.T) {
	for _, s := range []string{"dn", "DN;dn", "a;a;a", "a;b;c;d;e;f;g;h;i;j;k", "0.0", "1.2.0.4;-;9", "a" + filled(";b", 1000), "(a", "a=", "a)", "a=b", "a:dn", "a ", " a", "a\n", "\u212a", "a\x00"} {
		checkDesc(t, s)
	}
}

func TestDescBounds(t *testing.T) {
	for _, more := range []int{-1, 0, 1, 2, api.MaxText, 20 * api.MaxText} {
		size := api.MaxText + more
		for _, s := range []string{filled("a", size), "1." + filled("1", size-2), "0." + filled("0", size-2), "a;" + filled("-", size-2), filled("a", size-1) + ";", filled("a", size-2) + ";b", filled("1", size), filled(";", size), filled("a", size-1) + "_", filled("\xff", size), "ab"[:1+size%2] + filled(";b", (size-1)/2)} {
			checkDesc(t, s)
		}
	}
	if !text.Desc(filled("a", api.MaxText)) || text.Desc(filled("a", api.MaxText+1)) {
		t.Error("the bound is another one")
	}
}
