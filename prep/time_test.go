package prep_test

import (
	"fmt"
	"strings"
	"testing"

	"roster/api"
	"roster/prep"
)

func checkTime(t *testing.T, value string) {
	t.Helper()
	checkKey(t, api.FormTime, value)
	at, wantRest, wantOk := modelTime(value)
	want := int64(0)
	if wantOk {
		want = at.Unix()
	}
	if got, rest, ok := prep.Time(value); got != want || rest != wantRest || ok != wantOk {
		t.Errorf("Time(%s) = %d, %q, %v, want %d, %q, %v", brief(value), got, rest, ok, want, wantRest, wantOk)
	}
}

func TestTimeExamples(t *testing.T) {
	for _, c := range []struct {
		value   string
		seconds int64
		rest    string
		ok      bool
	}{
		{"19700101000000Z", 0, "", true},
		{"20000229120000,250-0100", 951829200, "25", true},
		{"19691231235959Z", -1, "", true},
		{"19691231235959.999999999Z", -1, "999999999", true},
		{"00000101000000Z", -62167219200, "", true},
		{"99991231235959Z", 253402300799, "", true},
		{"00000101000000+0001", 0, "", false},
		{"99991231235959-0100", 0, "", false},
		{"20230229000000Z", 0, "", false},
		{"", 0, "", false},
	} {
		if got, rest, ok := prep.Time(c.value); got != c.seconds || rest != c.rest || ok != c.ok {
			t.Errorf("Time(%s) = %d, %q, %v", c.value, got, rest, ok)
		}
		checkTime(t, c.value)
	}
}

var someYears = []int{0, 1, 3, 4, 99, 100, 101, 200, 300, 399, 400, 401, 1582, 1600, 1700, 1800, 1900, 1904, 1969, 1970, 1999, 2000, 2001, 2023, 2024, 2100, 2400, 9996, 9998, 9999}

func TestTimeOfEachDayThatMayBeWritten(t *testing.T) {
	for _, year := range someYears {
		for month := range 100 {
			for date := range 100 {
				if month > 14 && date > 1 && date < 99 {
					continue
				}
				checkTime(t, fmt.Sprintf("%04d%02d%02d120000Z", year, month, date))
			}
		}
	}
}

// Day by day through all years: none is left out, and none is there that the calendar has not.
func TestTimeOfAllYears(t *testing.T) {
	want := int64(-62167219200)
	for year := range 10000 {
		leap := year%4 == 0 && (year%100 != 0 || year%400 == 0)
		february := 28
		if leap {
			february = 29
		}
		for month, days := range []int{31, february, 31, 30, 31, 30, 31, 31, 30, 31, 30, 31} {
			for _, date := range []int{1, days} {
				got, _, ok := prep.Time(fmt.Sprintf("%04d%02d%02d000000Z", year, month+1, date))
				if !ok || got != want+int64(date-1)*86400 {
					t.Fatal(year, month+1, date, got, ok)
				}
			}
			if _, _, ok := prep.Time(fmt.Sprintf("%04d%02d%02d000000Z", year, month+1, days+1)); ok {
				t.Fatal(year, month+1, days+1)
			}
			want += int64(days) * 86400
		}
		key, ok := prep.Key(api.FormTime, fmt.Sprintf("%04d0301001500+0030", year))
		if !ok || key != fmt.Sprintf("%04d02%02d234500", year, february) {
			t.Fatal(year, key, ok)
		}
	}
}

func TestTimeOfLeapYears(t *testing.T) {
	for year, leap := range map[int]bool{0: true, 1: false, 2: false, 4: true, 100: false, 104: true, 200: false, 300: false, 400: true, 1900: false, 1996: true, 2000: true, 2023: false, 2024: true, 2100: false, 9996: true, 9999: false} {
		for _, c := range []struct {
			date string
			want bool
		}{{"0228", true}, {"0229", leap}, {"0230", false}} {
			value := fmt.Sprintf("%04d%s235959Z", year, c.date)
			if _, _, ok := prep.Time(value); ok != c.want {
				t.Errorf("Time(%s): %v", value, ok)
			}
		}
	}
}

func TestTimeOfEachClock(t *testing.T) {
	for n := range 100 {
		checkTime(t, fmt.Sprintf("20240229%02d0000Z", n))
		checkTime(t, fmt.Sprintf("2024022900%02d00Z", n))
		checkTime(t, fmt.Sprintf("202402290000%02dZ", n))
		checkTime(t, fmt.Sprintf("20240229%02d%02d%02d-2359", n%24, n%60, (7*n)%60))
	}
	for _, clock := range []string{"240000", "236000", "235960", "235961"} {
		if _, _, ok := prep.Time("20240229" + clock + "Z"); ok {
			t.Errorf("%s is taken", clock)
		}
	}
}

// Each offset at the two ends of the years, where it may lead out of them, and at a leap day.
func TestTimeOfEachOffset(t *testing.T) {
	for hours := range 100 {
		for minutes := range 100 {
			if hours > 25 && minutes%20 != 0 {
				continue
			}
			for _, sign := range []string{"+", "-"} {
				zone := fmt.Sprintf("%s%02d%02d", sign, hours, minutes)
				for _, stamp := range []string{"00000101000000", "00000101120000", "00000101235959", "99991231000000", "99991231120000", "99991231235959", "20000229003000"} {
					checkTime(t, stamp+zone)
				}
			}
		}
	}
}

func TestTimeAtTheEdgesOfTheYears(t *testing.T) {
	for value, want := range map[string]string{
		"00000101000000Z":        "00000101000000",
		"00000101000000+0000":    "00000101000000",
		"00000101000000-0000":    "00000101000000",
		"00000101000100+0001":    "00000101000000",
		"00000101235900+2359":    "00000101000000",
		"00000101000000-2359":    "00000101235900",
		"99991231235959Z":        "99991231235959",
		"99991231235959.999Z":    "99991231235959999",
		"99991231235859-0001":    "99991231235959",
		"99991231000059-2359":    "99991231235959",
		"99991231235959.9+0000":  "999912312359599",
		"00000301000000+0001":    "00000229235900",
		"20240101000000+0001":    "20231231235900",
		"20231231235959,10-0000": "202312312359591",
	} {
		if got, ok := prep.Key(api.FormTime, value); got != want || !ok {
			t.Errorf("Key(FormTime, %s) = %q, %v", value, got, ok)
		}
	}
	for _, wrong := range []string{"00000101000000+0001", "00000101000059+0001", "00000101235859+2359", "99991231235900-0001", "99991231235959-0001", "99991231000100-2359", "00000101000000.5+2359"} {
		if got, ok := prep.Key(api.FormTime, wrong); got != "" || ok {
			t.Errorf("Key(FormTime, %s) = %q, %v", wrong, got, ok)
		}
		if seconds, rest, ok := prep.Time(wrong); seconds != 0 || rest != "" || ok {
			t.Errorf("Time(%s) = %d, %q, %v", wrong, seconds, rest, ok)
		}
	}
}

func TestTimeOfFractions(t *testing.T) {
	for count := range 12 {
		for _, digits := range []string{strings.Repeat("0", count), strings.Repeat("9", count), ("5" + strings.Repeat("0", 11))[:count], ("050607080900")[:count]} {
			for _, sign := range []string{".", ","} {
				for _, zone := range []string{"Z", "+0130", "-0130", ""} {
					checkTime(t, "20240229235959"+sign+digits+zone)
				}
				seconds, rest, ok := prep.Time("19700101000001" + sign + digits + "Z")
				if count == 0 || count > 9 {
					if seconds != 0 || rest != "" || ok {
						t.Errorf("%s%s: %d, %q, %v", sign, digits, seconds, rest, ok)
					}
					continue
				}
				if seconds != 1 || rest != strings.TrimRight(digits, "0") || !ok {
					t.Errorf("%s%s: %d, %q, %v", sign, digits, seconds, rest, ok)
				}
			}
		}
	}
}

func TestTimeRefused(t *testing.T) {
	for _, wrong := range []string{
		"20240101000000", "20240101000000z", "20240101000000.Z", "20240101000000..1Z", "20240101000000.1", "20240101000000.1.1Z", "20240101000000;1Z", "20240101000000.-1Z",
		"2024010100000Z", "202401010000Z", "2024010100Z", "20240101Z", "2024Z", "Z", "020240101000000Z", "202401010000000Z",
		"20240101000000+", "20240101000000+1", "20240101000000+01", "20240101000000+013", "20240101000000+01300", "20240101000000+013000", "20240101000000-01300000", "20240101000000+0130Z", "20240101000000Z+0130", "20240101000000ZZ", "20240101000000Z ",
		" 20240101000000Z", "20240101000000 Z", "20240101000000+01:30", "20240101000000+2400", "20240101000000+0060", "20240101000000-2400", "20240101000000=0130", "20240101000000+-130", "20240101000000++130",
		"+2024101000000Z", "-0010101000000Z", "2024-101000000Z", "202401 1000000Z", "20240001000000Z", "20241301000000Z", "20240100000000Z", "20240132000000Z", "20240431000000Z", "２024010100000Z", "\xff0240101000000Z",
	} {
		if seconds, rest, ok := prep.Time(wrong); seconds != 0 || rest != "" || ok {
			t.Errorf("Time(%q) = %d, %q, %v", wrong, seconds, rest, ok)
		}
		checkTime(t, wrong)
	}
}

func TestTimeOfWhatOneByteChanges(t *testing.T) {
	for _, value := range []string{"20240229235959Z", "20240229235959.50+0130", "00000101000000,123456789-2359", "99991231235959.999999999Z", "19000228000000+0000"} {
		for _, other := range changed(value, "0123459Zz.,+-: a\xff\x00/;") {
			checkTime(t, other)
		}
	}
	for _, value := range longTexts(api.MaxText + 1) {
		checkTime(t, value)
	}
	checkTime(t, "20240229235959."+strings.Repeat("0", api.MaxText-16)+"Z")
}
