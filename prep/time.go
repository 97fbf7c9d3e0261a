package prep

import (
	"strconv"
	"strings"
)

// What stands in a moment's text, in its order.
const (
	yearWidth   = 4
	pairWidth   = 2
	stampWidth  = yearWidth + 5*pairWidth
	mostRest    = 9
	offsetWidth = 1 + 2*pairWidth
)

const (
	daySeconds    = 86400
	hourSeconds   = 3600
	minuteSeconds = 60
)

// The calendar comes back to itself after so many years, which have so many days.
const (
	roundYears = 400
	roundDays  = 146097
)

const lastYear = 9999

// day is a year, a month and a day of that month. As an array it can be held against another one: it is a day of the calendar just if it is the day that its number tells.
type day [3]int

// number tells how many days d is behind 1 March of the year -400. From March on the leap day is a year's last one, and from that year on nothing is below 0.
func (d day) number() int {
	year, month := d[0]+roundYears, d[1]-3
	if month < 0 {
		year--
		month += 12
	}
	return daysToYear(year) + daysToMonth(month) + d[2] - 1
}

// dayOf is the day whose number it is.
func dayOf(number int) day {
	year := number*roundYears/roundDays + 1 // the year by its mean length, and one more: at least the one that it is
	for daysToYear(year) > number {
		year--
	}
	rest := number - daysToYear(year)
	month := (5*rest + 2) / 153
	last := rest - daysToMonth(month) + 1
	month += 3
	if month > 12 {
		year++
		month -= 12
	}
	return day{year - roundYears, month, last}
}

// daysToYear tells how many days lie ahead of a year that begins in March.
func daysToYear(year int) int {
	return 365*year + year/4 - year/100 + year/400
}

// daysToMonth tells how many days of its year lie ahead of a month, of which March is 0: from March on each five months have 153 days.
func daysToMonth(month int) int {
	return (153*month + 2) / 5
}

// moment is a point of time in UTC.
type moment struct {
	seconds int64  // from 1 March of the year -400 on
	rest    string // of a second: its digits, without noughts at their end
}

// Time: P3.4.
func Time(value string) (seconds int64, rest string, ok bool) {
	m, ok := momentOf(value)
	if !ok {
		return 0, "", false
	}
	begin := int64(day{1970, 1, 1}.number()) * daySeconds
	return m.seconds - begin, m.rest, true
}

// timeForm is the form of moments.
type timeForm struct{}

func (f timeForm) key(value string) (string, bool) {
	v, ok := momentOf(value)
	if !ok {
		return "", false
	}
	d, clock := v.day(), int(v.seconds%daySeconds)
	out := make([]byte, 0, stampWidth+mostRest)
	out = appendPadded(out, yearWidth, d[0])
	out = appendPadded(out, pairWidth, d[1])
	out = appendPadded(out, pairWidth, d[2])
	out = appendPadded(out, pairWidth, clock/hourSeconds)
	out = appendPadded(out, pairWidth, clock%hourSeconds/minuteSeconds)
	out = appendPadded(out, pairWidth, clock%minuteSeconds)
	return string(out) + v.rest, true
}

func (m moment) day() day {
	return dayOf(int(m.seconds / daySeconds))
}

// momentOf reads what is written; false, if no moment is written so.
func momentOf(value string) (moment, bool) {
	if len(value) < stampWidth {
		return moment{}, false
	}
	seconds, okStamp := stampOf(value[:stampWidth])
	rest, behind, okRest := cutRest(value[stampWidth:])
	offset, okOffset := offsetOf(behind)
	if !okStamp || !okRest || !okOffset {
		return moment{}, false
	}
	m := moment{seconds - offset, rest}
	year := m.day()[0]
	if year < 0 || year > lastYear {
		return moment{}, false
	}
	return m, true
}

// stampOf reads the day and the clock's time.
func stampOf(s string) (int64, bool) {
	month := yearWidth + pairWidth
	date := month + pairWidth
	year, okYear := digitsOf(s[:yearWidth])
	inYear, okMonth := digitsOf(s[yearWidth:month])
	inMonth, okDate := digitsOf(s[month:date])
	clock, okClock := clockOf(s[date:])
	if !okYear || !okMonth || !okDate || !okClock {
		return 0, false
	}
	d := day{year, inYear, inMonth}
	if d != dayOf(d.number()) {
		return 0, false
	}
	return int64(d.number())*daySeconds + clock, true
}

// clockOf reads hours and minutes, and seconds where they stand behind them, as seconds.
func clockOf(s string) (int64, bool) {
	clock := int64(0)
	unit := int64(hourSeconds)
	most := 23
	for ; s != ""; s = s[pairWidth:] {
		n, ok := digitsOf(s[:pairWidth])
		if !ok || n > most {
			return 0, false
		}
		clock += int64(n) * unit
		unit /= 60
		most = 59
	}
	return clock, true
}

// cutRest reads what stands of a second, if anything does, and tells what stands behind it.
func cutRest(s string) (rest, behind string, ok bool) {
	if s == "" || s[0] != '.' && s[0] != ',' {
		return "", s, true
	}
	count := 0
	for count+1 < len(s) && isDigit(rune(s[count+1])) {
		count++
	}
	if count == 0 || count > mostRest {
		return "", "", false
	}
	return strings.TrimRight(s[1:count+1], "0"), s[count+1:], true
}

// offsetOf reads how many seconds the clock that is written runs ahead of UTC's.
func offsetOf(s string) (int64, bool) {
	if s == "Z" {
		return 0, true
	}
	if len(s) != offsetWidth || s[0] != '+' && s[0] != '-' {
		return 0, false
	}
	offset, ok := clockOf(s[1:])
	if s[0] == '-' {
		offset = -offset
	}
	return offset, ok
}

// digitsOf reads a few digits, noughts ahead too.
func digitsOf(s string) (int, bool) {
	n := 0
	for k := range len(s) {
		if !isDigit(rune(s[k])) {
			return 0, false
		}
		n = 10*n + int(s[k]-'0')
	}
	return n, true
}

func appendPadded(out []byte, width, n int) []byte {
	written := strconv.Itoa(n)
	for range width - len(written) {
		out = append(out, '0')
	}
	return append(out, written...)
}
