package prep_test

import (
	"math/big"
	"regexp"
	"strconv"
	"strings"
	"testing"
	"time"
	"unicode/utf8"

	"roster/api"
)

// The models say once more, by other means, what the chapter says: the tests hold the package against them.

var (
	isDigits = regexp.MustCompile(`^[0-9 ]*[0-9][0-9 ]*$`)
	isPhone  = regexp.MustCompile(`^[A-Za-z0-9 '()+,./:?=-]*[A-Za-z0-9'()+,./:?=][A-Za-z0-9 '()+,./:?=-]*$`)
	isNumber = regexp.MustCompile(`^(0|-?[1-9][0-9]*)$`)
	isOid    = regexp.MustCompile(`^([A-Za-z][A-Za-z0-9-]*|(0|[1-9][0-9]*)(\.(0|[1-9][0-9]*))+)$`)
	isTime   = regexp.MustCompile(`^([0-9]{4})([0-9]{2})([0-9]{2})([0-9]{2})([0-9]{2})([0-9]{2})([.,][0-9]{1,9})?(Z|[+-][0-9]{4})$`)
	isRow    = regexp.MustCompile(`[A-Za-z]+`)
	blanks   = regexp.MustCompile(` +`)
)

var (
	great = strings.Split("ABCDEFGHIJKLMNOPQRSTUVWXYZ", "")
	small = strings.Split("abcdefghijklmnopqrstuvwxyz", "")
)

func allSmall(s string) string {
	var pairs []string
	for k := range great {
		pairs = append(pairs, great[k], small[k])
	}
	return strings.NewReplacer(pairs...).Replace(s)
}

func without(s string, bytes ...string) string {
	for _, b := range bytes {
		s = strings.ReplaceAll(s, b, "")
	}
	return s
}

func modelKey(form int, value string) (string, bool) {
	if len(value) > 65536 {
		return "", false
	}
	switch form {
	case api.FormFold, api.FormExact:
		if value == "" || !utf8.ValidString(value) {
			return "", false
		}
		if form == api.FormFold {
			value = allSmall(value)
		}
		if blanks.ReplaceAllString(value, "") == "" {
			return " ", true
		}
		return strings.Trim(blanks.ReplaceAllString(value, " "), " "), true
	case api.FormDigits:
		if isDigits.MatchString(value) {
			return without(value, " "), true
		}
	case api.FormPhone:
		if isPhone.MatchString(value) {
			return without(allSmall(value), " ", "-"), true
		}
	case api.FormNumber:
		if isNumber.MatchString(value) {
			return modelNumberKey(value), true
		}
	case api.FormFlag:
		if value == "TRUE" || value == "FALSE" {
			return value, true
		}
	case api.FormTime:
		if at, rest, ok := modelTime(value); ok {
			return at.Format("20060102150405") + rest, true
		}
	case api.FormBytes:
		return value, true
	case api.FormOid:
		if isOid.MatchString(value) {
			return allSmall(value), true
		}
	}
	return "", false
}

func modelNumberKey(value string) string {
	count, below := strings.CutPrefix(value, "-")
	tells := len(count)
	sign := "\x70"
	if below {
		sign = "\x6e"
		tells = 16777215 - tells
		count = strings.NewReplacer("0", "9", "1", "8", "2", "7", "3", "6", "4", "5", "5", "4", "6", "3", "7", "2", "8", "1", "9", "0").Replace(count)
	}
	return sign + string([]byte{byte(tells / 65536), byte(tells / 256 % 256), byte(tells % 256)}) + count
}

func modelTime(value string) (time.Time, string, bool) {
	parts := isTime.FindStringSubmatch(value)
	if parts == nil {
		return time.Time{}, "", false
	}
	var n [6]int
	for k := range n {
		n[k], _ = strconv.Atoi(parts[k+1])
	}
	at := time.Date(n[0], time.Month(n[1]), n[2], n[3], n[4], n[5], 0, time.UTC)
	if at.Year() != n[0] || int(at.Month()) != n[1] || at.Day() != n[2] || at.Hour() != n[3] || at.Minute() != n[4] || at.Second() != n[5] {
		return time.Time{}, "", false
	}
	if zone := parts[8]; zone != "Z" {
		hours, _ := strconv.Atoi(zone[1:3])
		minutes, _ := strconv.Atoi(zone[3:])
		if hours > 23 || minutes > 59 {
			return time.Time{}, "", false
		}
		ahead := time.Duration(hours*60+minutes) * time.Minute
		if zone[0] == '+' {
			ahead = -ahead
		}
		at = at.Add(ahead)
	}
	if at.Year() < 0 || at.Year() > 9999 {
		return time.Time{}, "", false
	}
	rest := parts[7]
	if rest != "" {
		rest = strings.TrimRight(rest[1:], "0")
	}
	return at, rest, true
}

func modelPiece(form, where int, s string) (string, bool) {
	if len(s) > 65536 || where < 0 || where > 2 {
		return "", false
	}
	switch form {
	case api.FormFold, api.FormExact:
		if !utf8.ValidString(s) {
			return "", false
		}
		s = blanks.ReplaceAllString(s, " ")
		if form == api.FormFold {
			s = allSmall(s)
		}
		if where == api.AtStart {
			s = strings.TrimLeft(s, " ")
		}
		if where == api.AtEnd {
			s = strings.TrimRight(s, " ")
		}
		return s, true
	case api.FormDigits:
		if isDigits.MatchString("0" + s) {
			return without(s, " "), true
		}
	case api.FormPhone:
		if isPhone.MatchString("0" + s) {
			return without(allSmall(s), " ", "-"), true
		}
	}
	return "", false
}

func modelAdd(a, b string) (string, bool) {
	if len(a) > 65536 || len(b) > 65536 || !isNumber.MatchString(a) || !isNumber.MatchString(b) {
		return "", false
	}
	sum := new(big.Int).Add(bigOf(a), bigOf(b)).String()
	if len(sum) > 65536 {
		return "", false
	}
	return sum, true
}

func bigOf(s string) *big.Int {
	n, ok := new(big.Int).SetString(s, 10)
	if !ok {
		panic("no number: " + s)
	}
	return n
}

func modelSound(s string) string {
	var codes []string
	for _, row := range isRow.FindAllString(s, -1) {
		codes = append(codes, modelCode(allSmall(row)))
	}
	return strings.Join(codes, " ")
}

// modelCode looks, for each letter, back for the one that it may not repeat.
func modelCode(row string) string {
	code := strings.ToUpper(row[:1])
	for k := 1; k < len(row); k++ {
		digit := modelDigit(row[k])
		j := k - 1
		for j >= 0 && (row[j] == 'h' || row[j] == 'w') {
			j--
		}
		if digit == "" || j >= 0 && modelDigit(row[j]) == digit {
			continue
		}
		code += digit
	}
	return (code + "000")[:4]
}

func modelDigit(letter byte) string {
	for digit, letters := range map[string]string{"1": "bfpv", "2": "cgjkqsxz", "3": "dt", "4": "l", "5": "mn", "6": "r"} {
		if strings.IndexByte(letters, letter) >= 0 {
			return digit
		}
	}
	return ""
}

// rowsOf are all rows of at most most of the pieces, the empty one among them.
func rowsOf(pieces []string, most int) []string {
	out := []string{""}
	from := 0
	for range most {
		to := len(out)
		for _, s := range out[from:to] {
			for _, p := range pieces {
				out = append(out, s+p)
			}
		}
		from = to
	}
	return out
}

// changed are the texts that one byte's change, loss or gain makes of s.
func changed(s, bytes string) []string {
	var out []string
	for at := range len(s) + 1 {
		for k := range len(bytes) {
			out = append(out, s[:at]+bytes[k:k+1]+s[at:])
			if at < len(s) {
				out = append(out, s[:at]+bytes[k:k+1]+s[at+1:])
			}
		}
		if at < len(s) {
			out = append(out, s[:at]+s[at+1:])
		}
	}
	return out
}

// brief keeps long texts out of what a failing test tells.
func brief(s string) string {
	if len(s) <= 60 {
		return strconv.Quote(s)
	}
	return strconv.Quote(s[:20]) + " .. " + strconv.Quote(s[len(s)-20:]) + " (" + strconv.Itoa(len(s)) + " bytes)"
}

func TestModelsStandOnTheirOwn(t *testing.T) {
	if key, ok := modelKey(api.FormTime, "20240229235959.50+0130"); key != "202402292229595" || !ok {
		t.Error(key, ok)
	}
	if got := modelSound("Ashcraft Tymczak"); got != "A261 T522" {
		t.Error(got)
	}
	if n := len(rowsOf([]string{"a", "b"}, 3)); n != 15 {
		t.Error(n)
	}
}
