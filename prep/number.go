package prep

import (
	"strings"

	"roster/api"
)

// A number's key begins with one of these, so that the ones below 0 come first.
const (
	keyBelow = 'n'
	keyAbove = 'p'
)

// mostCount is the greatest count that a key's three bytes tell.
const mostCount = 1<<24 - 1

// number is a whole number of any size, to the base 10.
type number struct {
	below  bool   // it is less than 0
	digits string // without its sign, a count
}

// numberOf reads what is written; false, if no number is written so.
func numberOf(s string) (number, bool) {
	count, below := strings.CutPrefix(s, "-")
	if !isCount(count) || below && count == "0" || len(s) > api.MaxText {
		return number{}, false
	}
	return number{below, count}, true
}

func (n number) text() string {
	if n.below {
		return "-" + n.digits
	}
	return n.digits
}

// numberForm is the form of whole numbers.
type numberForm struct{}

// A longer number comes behind a shorter one, but ahead of it below 0: there the count and the digits are turned round.
func (f numberForm) key(value string) (string, bool) {
	v, ok := numberOf(value)
	if !ok {
		return "", false
	}
	count := len(v.digits)
	if !v.below {
		return string(appendCount([]byte{keyAbove}, count)) + v.digits, true
	}
	out := appendCount([]byte{keyBelow}, mostCount-count)
	for k := range count {
		out = append(out, '9'-v.digits[k]+'0')
	}
	return string(out), true
}

func appendCount(out []byte, count int) []byte {
	return append(out, byte(count>>16), byte(count>>8), byte(count))
}

// Add: P3.3.
func Add(a, b string) (string, bool) {
	x, okX := numberOf(a)
	y, okY := numberOf(b)
	if !okX || !okY {
		return "", false
	}
	sum := plus(x, y).text()
	if len(sum) > api.MaxText {
		return "", false
	}
	return sum, true
}

func plus(x, y number) number {
	if x.below == y.below {
		return number{x.below, joinDigits(x.digits, y.digits, 1)}
	}
	if lessDigits(x.digits, y.digits) {
		x, y = y, x
	}
	out := joinDigits(x.digits, y.digits, -1)
	return number{x.below && out != "0", out}
}

func lessDigits(a, b string) bool {
	if len(a) != len(b) {
		return len(a) < len(b)
	}
	return a < b
}

// joinDigits adds b to a (sign 1), or takes it away (sign -1): then it is not more than a.
func joinDigits(a, b string, sign int) string {
	places := max(len(a), len(b)) + 1 // a sum may need one more
	out := make([]byte, places)
	carry := 0
	for k := range places {
		v := digitAt(a, k) + sign*digitAt(b, k) + carry
		carry = 0
		if v < 0 {
			v += 10
			carry = -1
		}
		if v > 9 {
			v -= 10
			carry = 1
		}
		out[places-1-k] = '0' + byte(v)
	}
	written := strings.TrimLeft(string(out), "0")
	if written == "" {
		return "0"
	}
	return written
}

// digitAt is what the digit counts that stands k places ahead of the last one; beyond the first one noughts stand.
func digitAt(digits string, k int) int {
	if k >= len(digits) {
		return 0
	}
	return int(digits[len(digits)-1-k] - '0')
}
