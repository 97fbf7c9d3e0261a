package rank_test

import (
	"math"
	"slices"
	"strings"
	"testing"

	"roster/api"
	"roster/rank"
)

func pages(t testing.TB, ids []uint64, cookie string, n int, next string, want ...uint64) {
	t.Helper()
	part, behind, e := rank.Page(ids, cookie, n)
	if e != api.OK || behind != next || !slices.Equal(part, want) {
		t.Errorf("Page(%d, %q, %d) is %d, %q, %v, not %d, %q", ids, cookie, n, part, behind, e, want, next)
	}
}

func refusesPage(t testing.TB, ids []uint64, cookie string, n int, want api.Errno) {
	t.Helper()
	part, behind, e := rank.Page(ids, cookie, n)
	if e != want || behind != "" || len(part) != 0 {
		t.Errorf("Page(%d, %s, %d) is %d, %q, %v, not %v", ids, brief(cookie), n, part, behind, e, want)
	}
}

// The chapter's examples.
func TestPageExamples(t *testing.T) {
	three, one := []uint64{5, 3, 9}, []uint64{5}
	pages(t, three, "", 2, "2", 5, 3)
	pages(t, three, "2", 2, "", 9)
	pages(t, three, "3", 2, "")
	pages(t, nil, "", 1, "")
	refusesPage(t, one, "", 0, api.ErrArg)
	refusesPage(t, one, "0", 1, api.ErrCookie)
	refusesPage(t, one, "2", 1, api.ErrCookie)
	refusesPage(t, one, "01", 1, api.ErrCookie)
}

// P22.2: as many as are asked for, or as are left.
func TestSizeOfPage(t *testing.T) {
	l := []uint64{9, 9, 0, 1 << 63, 7}
	pages(t, l, "", 1, "1", 9)
	pages(t, l, "", 4, "4", 9, 9, 0, 1<<63)
	pages(t, l, "", 5, "", l...)
	pages(t, l, "", 6, "", l...)
	pages(t, l, "", math.MaxInt, "", l...)
	pages(t, l, "1", 3, "4", 9, 0, 1<<63)
	pages(t, l, "1", 4, "", l[1:]...)
	pages(t, l, "1", math.MaxInt, "", l[1:]...)
	pages(t, l, "4", 1, "", 7)
	pages(t, l, "4", math.MaxInt-3, "", 7)
	pages(t, l, "5", 1, "")
	pages(t, l, "5", math.MaxInt, "")
	pages(t, []uint64{}, "", math.MaxInt, "")
	for _, n := range []int{0, -1, -5, math.MinInt} {
		for _, cookie := range []string{"", "1", "5", "6", "0", "x"} {
			refusesPage(t, l, cookie, n, api.ErrArg)
			refusesPage(t, nil, cookie, n, api.ErrArg)
		}
	}
}

// P22.2: a cookie is told in one way alone, and means no more than there are numbers.
func TestCookies(t *testing.T) {
	many := make([]uint64, 120)
	for at := range many {
		many[at] = uint64(at) * 3
	}
	pages(t, many, "9", 1, "10", 27)
	pages(t, many, "10", 1, "11", 30)
	pages(t, many, "99", 1, "100", 297)
	pages(t, many, "100", 2, "102", 300, 303)
	pages(t, many, "119", 1, "", 357)
	pages(t, many, "120", 1, "")
	wrong := []string{
		"0", "00", "01", "010", "0100", "+1", "-1", "-0", "+0", "--1", "1+", " 1", "1 ", "1\n", "\t1", "1\x00", "\x001", "x", "1x", "x1", "0x1", "0b1", "0o1", "1_0", "1.0", "1.", ".1", "1e1", "1e0", "1,0", "\xff", "1\xff", "²", "١", "１", "Inf",
		"121", "1000", "2147483647", "2147483648", "4294967295", "4294967296", "4294967297", "9223372036854775807", "9223372036854775808", "18446744073709551615", "18446744073709551616", "18446744073709551617", "18446744073709551626",
		"340282366920938463463374607431768211457", strings.Repeat("9", 400), "1" + strings.Repeat("0", api.MaxText), strings.Repeat("0", 400), strings.Repeat("0", 400) + "1", strings.Repeat("x", 400),
	}
	for _, cookie := range wrong {
		for _, n := range []int{1, 120, math.MaxInt} {
			refusesPage(t, many, cookie, n, api.ErrCookie)
		}
		refusesPage(t, nil, cookie, 1, api.ErrCookie)
		refusesPage(t, many, cookie, 0, api.ErrArg)
	}
	refusesPage(t, nil, "1", 1, api.ErrCookie)
	refusesPage(t, []uint64{}, "1", 1, api.ErrCookie)
	pages(t, many[:1], "1", 1, "")
}
