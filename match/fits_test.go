package match_test

import (
	"strings"
	"testing"

	"roster/api"
	"roster/match"
)

func TestFitsOfEachSyntax(t *testing.T) {
	s := testSchema(t)
	for _, c := range []struct {
		places    []int
		yes, none []string
	}{
		{[]int{cn, exact, sn, bareText}, []string{"a", " ", "é", "\x00", "01"}, []string{"", "\xff", "a\xc3"}},
		{[]int{digits, bareDigits}, []string{"1", " 1 2 ", "007"}, []string{"", " ", "a", "-1", "1-2"}},
		{[]int{phone, barePhone}, []string{"+1 (2)-3", "a", "?"}, []string{"", " - ", "#1", "é"}},
		{[]int{number, bareNumber}, []string{"0", "-5", "10"}, []string{"", "x", "01", "-0", "+1", " 1"}},
		{[]int{flag, bareFlag}, []string{"TRUE", "FALSE"}, []string{"", "true", "TRUE ", "1"}},
		{[]int{moment, bareTime}, []string{"20240229235959Z", "20240101000000.5-0100"}, []string{"", "20230229000000Z", "2024", "20240101000000"}},
		{[]int{octets, bareBytes}, []string{"", "\xff\x00", " "}, nil},
		{[]int{seeAlso, owner, bareName}, []string{"", "cn=a", "s=cn=a,sn=b"}, []string{"a", "cn", "cn=", "zz=a", "cn=a,", "s=zz=a", "cn=a+cn=b"}},
		{[]int{objectClass, bareOid}, []string{"cn", "nobody", "1.2.3", "X-1"}, []string{"", "a b", "1", "1.02", "-a"}},
	} {
		for _, place := range c.places {
			for _, value := range c.yes {
				if !match.Fits(s, place, value) {
					t.Errorf("%q does not fit %d", value, place)
				}
			}
			for _, value := range c.none {
				if match.Fits(s, place, value) {
					t.Errorf("%q fits %d", value, place)
				}
			}
		}
	}
}

func TestFitsOfLongValues(t *testing.T) {
	s := testSchema(t)
	long := strings.Repeat("1", api.MaxText)
	for _, place := range []int{cn, exact, sn, bareText, digits, phone, number, octets, bareBytes} {
		if !match.Fits(s, place, long) || match.Fits(s, place, long+"1") {
			t.Errorf("the bound of %d", place)
		}
	}
	if !match.Fits(s, seeAlso, "octets="+strings.Repeat("\x01", 21843)) || match.Fits(s, seeAlso, "octets="+strings.Repeat("\x01", 21844)) {
		t.Error("the bound of names")
	}
}

func TestFitsOfNoType(t *testing.T) {
	s := testSchema(t)
	for _, place := range notPlaces {
		for _, value := range someValues {
			if match.Fits(s, place, value) {
				t.Errorf("%q fits %d", value, place)
			}
		}
	}
}

func TestFitsOfEachTypeAndValue(t *testing.T) {
	s := testSchema(t)
	for place := range typeCount {
		for _, value := range someValues {
			if got, want := match.Fits(s, place, value), modelFits(s, place, value); got != want {
				t.Errorf("Fits(%d, %q) = %v", place, value, got)
			}
		}
	}
}

func TestSameByKeys(t *testing.T) {
	s := testSchema(t)
	for _, c := range []struct {
		place int
		a, b  string
		want  bool
	}{
		{cn, "A", " a ", true},
		{cn, "a", "b", false},
		{exact, "A", "a", false},
		{exact, " A", "A", true},
		{sn, "A  B", "a b", true}, // by the rule of its Sup
		{digits, "1 2", "12", true},
		{phone, "+1-2 A", "+12a", true},
		{number, "5", "5", true},
		{number, "5", "-5", false},
		{flag, "TRUE", "FALSE", false},
		{moment, "20240229235959Z", "20240301005959+0100", true},
		{moment, "20240229235959.0Z", "20240229235959Z", true},
		{octets, "a", "A", false},
		{octets, "", "", true},
		{seeAlso, "cn=A,sn=b", "2.5.4.3=a,SN=B", true},
		{seeAlso, "cn=a,sn=b", "sn=b,cn=a", false},
		{owner, "s=CN=A", "S=cn=a", true},
		{objectClass, "CN", "2.5.4.3", true},
		{objectClass, "Person", "HUMAN", true},
		{objectClass, "named", "cn", true},
		{objectClass, "Nobody", "nobody", true},
		{objectClass, "top", "person", false},
	} {
		if match.Same(s, c.place, c.a, c.b) != c.want || match.Same(s, c.place, c.b, c.a) != c.want {
			t.Errorf("Same(%d, %q, %q)", c.place, c.a, c.b)
		}
	}
}

// Where one of them has no key, or the type no rule, the bytes count.
func TestSameByBytes(t *testing.T) {
	s := testSchema(t)
	long := strings.Repeat("a", api.MaxText+1)
	for _, c := range []struct {
		place int
		a, b  string
		want  bool
	}{
		{number, "01", "1", false},
		{number, "01", "01", true},
		{number, "01", "001", false},
		{cn, "", "", true},
		{cn, "", " ", false},
		{cn, "\xff", "\xff", true},
		{cn, "\xff", "\xfe", false},
		{cn, long, long, true},
		{cn, long, strings.ToUpper(long), false},
		{seeAlso, "zz=a", "zz=a", true},
		{seeAlso, "zz=a", "ZZ=a", false},
		{objectClass, "a b", "a b", true},
		{objectClass, "a b", "A B", false},
		{bareText, "a", "A", false},
		{bareText, "a", "a", true},
		{bareText, "a", "a ", false},
		{bareDigits, "1 2", "12", false},
		{barePhone, "1-2", "12", false},
		{bareTime, "20240229235959.0Z", "20240229235959Z", false},
		{bareName, "cn=a", "CN=a", false},
		{bareName, "cn=a", "cn=a", true},
		{bareOid, "cn", "2.5.4.3", false},
		{bareBytes, "\x00", "\x00", true},
	} {
		if match.Same(s, c.place, c.a, c.b) != c.want || match.Same(s, c.place, c.b, c.a) != c.want {
			t.Errorf("Same(%d, %s, %s)", c.place, brief(c.a), brief(c.b))
		}
	}
}

func TestSameOfNoType(t *testing.T) {
	s := testSchema(t)
	for _, place := range notPlaces {
		if match.Same(s, place, "a", "a") || match.Same(s, place, "", "") || match.Same(s, place, "a", "b") {
			t.Errorf("%d", place)
		}
	}
}

func TestSameOfEachTypeAndValues(t *testing.T) {
	s := testSchema(t)
	for place := range typeCount {
		for _, a := range someValues {
			for _, b := range someValues {
				if got, want := match.Same(s, place, a, b), modelSame(s, place, a, b); got != want {
					t.Errorf("Same(%d, %q, %q) = %v", place, a, b, got)
				}
			}
		}
	}
}
