package match_test

import (
	"strings"
	"testing"

	"roster/api"
	"roster/match"
)

func TestLikeExamples(t *testing.T) {
	s := testSchema(t)
	for i, c := range []struct{ got, want api.Truth }{
		{match.Like(s, cn, "Robert", "Rupert"), api.Yes},
		{match.Like(s, cn, "12", "12"), api.Yes},
		{match.Like(s, cn, "12", "13"), api.No},
		{match.Like(s, cn, "a", ""), api.Unknown},
	} {
		if c.got != c.want {
			t.Errorf("%d: %v, want %v", i, c.got, c.want)
		}
	}
}

// Texts are like one another whatever the rules of the type: by keys that fold, or by sounds.
func TestLikeOfTexts(t *testing.T) {
	s := testSchema(t)
	long := strings.Repeat(" ", api.MaxText) + "Robert"
	for _, place := range []int{cn, exact, sn, bareText} {
		for _, c := range []struct {
			value, asked string
			want         api.Truth
		}{
			{"1 A", "1  a", api.Yes},
			{"É", "é", api.No}, // no letters, no sound
			{"é", " é ", api.Yes},
			{"Robert X", "Rupert", api.No},
			{"Robert X", "rupert-X", api.Yes},
			{"12 Robert", "Rupert 13", api.Yes},
			{"1", "2", api.No},
			{"-", "+", api.No},
			{"-", "-", api.Yes},
			{" ", "   ", api.Yes},
			{"", "1", api.No},
			{"", "Robert", api.No},
			{"1", "Robert", api.No},
			{"Robert", "1", api.No},
			{"\xff", "1", api.No},
			{"Robert\xff", "Rupert", api.Yes}, // has no key, but a sound
			{long, "Rupert", api.Yes},
			{long, "1", api.No},
			{"a", "\xff", api.Unknown},
			{"Robert", "Rupert\xff", api.Unknown},
			{"Robert", long, api.Unknown},
			{"", "", api.Unknown},
		} {
			if got := match.Like(s, place, c.value, c.asked); got != c.want {
				t.Errorf("Like(%d, %s, %s) = %v, want %v", place, brief(c.value), brief(c.asked), got, c.want)
			}
		}
	}
}

func TestLikeOfOtherSyntaxes(t *testing.T) {
	s := testSchema(t)
	for _, c := range []struct {
		place        int
		value, asked string
		want         api.Truth
	}{
		{digits, "1 2", "12", api.Yes},
		{digits, "1", "2", api.No},
		{digits, "1", "a", api.Unknown},
		{phone, "Robert", "Rupert", api.No},
		{phone, "1-A", "1a", api.Yes},
		{number, "5", "5", api.Yes},
		{number, "05", "5", api.No},
		{number, "5", "05", api.Unknown},
		{flag, "TRUE", "TRUE", api.Yes},
		{flag, "TRUE", "true", api.Unknown},
		{moment, "20240229235959Z", "20240301005959+0100", api.Yes},
		{octets, "Robert", "Rupert", api.No},
		{octets, "", "", api.Yes},
		{seeAlso, "CN=A", "cn=a", api.Yes},
		{seeAlso, "cn=Robert", "cn=Rupert", api.No},
		{seeAlso, "cn=a", "zz=a", api.Unknown},
		{owner, "s=CN=A", "s=cn=a", api.Yes},
		{objectClass, "human", "PERSON", api.Yes},
		{objectClass, "robert", "rupert", api.No},
		{objectClass, "a", "a b", api.Unknown},
		{bareDigits, "1", "1", api.Unknown}, // no rule for equality
		{barePhone, "1", "1", api.Unknown},
		{bareNumber, "1", "1", api.Unknown},
		{bareFlag, "TRUE", "TRUE", api.Unknown},
		{bareTime, "20240229235959Z", "20240229235959Z", api.Unknown},
		{bareBytes, "", "", api.Unknown},
		{bareName, "cn=a", "cn=a", api.Unknown},
		{bareOid, "cn", "cn", api.Unknown},
	} {
		if got := match.Like(s, c.place, c.value, c.asked); got != c.want {
			t.Errorf("Like(%d, %q, %q) = %v, want %v", c.place, c.value, c.asked, got, c.want)
		}
	}
}

func TestLikeOfNoType(t *testing.T) {
	s := testSchema(t)
	for _, place := range notPlaces {
		for _, value := range []string{"", "a", "1"} {
			if got := match.Like(s, place, value, value); got != api.Unknown {
				t.Errorf("%d, %q: %v", place, value, got)
			}
		}
	}
}

func TestLikeOfEachTypeAndValues(t *testing.T) {
	s := testSchema(t)
	for place := range typeCount {
		for _, value := range someValues {
			for _, asked := range someValues {
				if got, want := match.Like(s, place, value, asked), modelLike(s, place, value, asked); got != want {
					t.Errorf("Like(%d, %q, %q) = %v, want %v", place, value, asked, got, want)
				}
			}
		}
	}
}
