package schema_test

import (
	"fmt"
	"slices"
	"strings"
	"testing"

	"roster/api"
	"roster/schema"
)

func checkDesc(t *testing.T, x *schema.Schema, s api.Schema, d string) {
	t.Helper()
	want, wantOptions, wantE := modelDesc(s, d)
	got, options, e := x.Desc(d)
	if got != want || !slices.Equal(options, wantOptions) || e != wantE || e != api.OK && options != nil {
		t.Errorf("Desc(%s) = %d, %s, %v, want %d, %s, %v", brief(d), got, brief(options), e, want, brief(wantOptions), wantE)
	}
	canon := ""
	if wantE == api.OK {
		canon = strings.Join(append([]string{s.Types[want].Names[0]}, wantOptions...), ";")
	}
	if c, e := x.Canon(d); c != canon || e != wantE {
		t.Errorf("Canon(%s) = %s, %v, want %s, %v", brief(d), brief(c), e, brief(canon), wantE)
	}
}

func TestDescExamples(t *testing.T) {
	x := mustMake(t, chapterSchema)
	if k, options, e := x.Desc("cn;lang-en;X;x"); k != 2 || !slices.Equal(options, []string{"lang-en", "x"}) || e != api.OK {
		t.Errorf("%d %v %v", k, options, e)
	}
	for d, want := range map[string]api.Errno{"cn;": api.ErrName, "sn": api.ErrType, "2.5.4.03": api.ErrName} {
		if k, options, e := x.Desc(d); k != 0 || options != nil || e != want {
			t.Errorf("Desc(%s) = %d %v %v", d, k, options, e)
		}
	}
	if c, e := x.Canon("COMMONNAME;B;a"); c != "cn;a;b" || e != api.OK {
		t.Errorf("%s %v", c, e)
	}
	if !x.Covers("name", "cn;x") || x.Covers("cn;x", "cn") {
		t.Error("Covers")
	}
}

// All texts of up to five of these pieces.
func TestDescOfShortTexts(t *testing.T) {
	s := mustParse(t, chapterSchema)
	x := mustNew(t, s)
	pieces := []string{";", "cn", "CommonName", "2.5.4.3", "b", "A", "-", "9", ".", " ", "é", "_"}
	var all func(text string, more int)
	all = func(text string, more int) {
		checkDesc(t, x, s, text)
		if more == 0 {
			return
		}
		for _, p := range pieces {
			all(text+p, more-1)
		}
	}
	all("", 3)
	for _, start := range []string{"cn", "CommonName;b", "2.5.4.3;A", "sn;"} {
		all(start, 3)
	}
	for b := range 256 {
		for _, d := range []string{"cn" + string([]byte{byte(b)}), "cn;" + string([]byte{byte(b)}), string([]byte{byte(b)}), "cn;a" + string([]byte{byte(b)}) + "a", string([]byte{byte(b)}) + "cn"} {
			checkDesc(t, x, s, d)
		}
	}
}

func TestDescOptions(t *testing.T) {
	s := mustParse(t, chapterSchema)
	x := mustNew(t, s)
	eight := "cn;h;g;f;e;d;c;b;a"
	for _, d := range []string{eight, eight + ";A;B", eight + ";i", eight + ";i;_", eight + ";i;", "sn" + eight[2:] + ";i", "sn" + eight[2:], "sn;_", "cn;10;9;-;1;0", "cn;Z;a;B;b;z;A", "cn;---;-", "cn;a;a;a;a;a;a;a;a;A", "cn" + strings.Repeat(";a", 30000), "cn" + strings.Repeat(";a;B;b;A", 8000) + ";c", "cn" + strings.Repeat(";a", 30000) + ";", "sn" + strings.Repeat(";a", 30000)} {
		checkDesc(t, x, s, d)
	}
	many := "cn"
	for n := range 9000 {
		many += fmt.Sprintf(";%d", n)
	}
	checkDesc(t, x, s, many)
	checkDesc(t, x, s, many+"_")
}

func TestDescBounds(t *testing.T) {
	long := strings.Repeat("l", api.MaxText-10)
	s := withTypes(api.Type{Oid: "1.1", Names: []string{long, "s"}}, api.Type{Oid: "1.2", Names: []string{"t", strings.Repeat("T", api.MaxText)}})
	x := mustNew(t, s)
	for _, count := range []int{0, 1, 8, 9, 10, 11, 12, 13, 100, api.MaxText - 4, api.MaxText - 3, api.MaxText - 2, api.MaxText - 1} {
		option := strings.Repeat("x", count)
		for _, d := range []string{"s;" + option, "1.1;" + option, "t;" + option, "u;" + option, "s;a;A;" + option, "s;" + option + ";_"} {
			checkDesc(t, x, s, d)
		}
	}
	for _, count := range []int{api.MaxText - 1, api.MaxText, api.MaxText + 1, api.MaxText + 2, 1 << 20} {
		for _, letter := range []string{"t", "T", "l", ";", "1", "_"} {
			checkDesc(t, x, s, strings.Repeat(letter, count))
		}
	}
	checkDesc(t, x, s, long+";a")
	if _, _, e := x.Desc("s;" + strings.Repeat("x", 9)); e != api.OK {
		t.Errorf("as long as may be: %v", e)
	}
	if _, _, e := x.Desc("s;" + strings.Repeat("x", 10)); e != api.ErrLong {
		t.Errorf("one more: %v", e)
	}
}

var someDescs = func() []string {
	var list []string
	for _, word := range []string{"low", "L", "1.5", "MID", "high", "1.3", "side", "objectClass", "age", "photo", "nobody", "low ", ""} {
		for _, options := range []string{"", ";a", ";A;b", ";b;a;B", ";c", ";c;a", ";a-;a", ";", ";a;b;c;d;e;f;g;h", ";a;b;c;d;e;f;g;h;i"} {
			list = append(list, word+options)
		}
	}
	return list
}()

func modelCovers(s api.Schema, d, e string) bool {
	high, fewer, wrong := modelDesc(s, d)
	low, more, wrongToo := modelDesc(s, e)
	if wrong != api.OK || wrongToo != api.OK || !slices.Contains(modelUps(s, low), high) {
		return false
	}
	for _, option := range fewer {
		if !slices.Contains(more, option) {
			return false
		}
	}
	return true
}

func TestCovers(t *testing.T) {
	s := mustParse(t, wideSchema)
	x := mustNew(t, s)
	yes := 0
	for _, d := range someDescs {
		checkDesc(t, x, s, d)
		for _, e := range someDescs {
			want := modelCovers(s, d, e)
			if want {
				yes++
			}
			if got := x.Covers(d, e); got != want {
				t.Errorf("Covers(%s, %s) = %v", d, e, got)
			}
		}
	}
	if yes < 500 {
		t.Errorf("only %d cover", yes)
	}
}
