package name

import "strings"

// maxDigits is how many digits a number in a key has at most.
const maxDigits = 9

// Steps: P6.4.
func Steps(key string) []string {
	steps, _ := cut(key)
	return steps
}

// Lies: P6.4. Where a part ends hangs on the bytes up to its end alone, so that of two rows of steps the one has the other's parts at its beginning just if it has its bytes there.
func Lies(key, above string) bool {
	_, ok := cut(key)
	_, okAbove := cut(above)
	return ok && okAbove && len(key) > len(above) && strings.HasPrefix(key, above)
}

// cut cuts a row of steps into its parts.
func cut(key string) (steps []string, ok bool) {
	for rest := key; rest != ""; {
		step := cutStep(rest)
		if step == "" {
			return nil, false
		}
		steps = append(steps, step)
		rest = rest[len(step):]
	}
	return steps, true
}

// cutStep tells the part at the beginning of s, with its ;, or nothing.
func cutStep(s string) string {
	last, rest := -1, s
	for {
		place, behind, ok := cutPair(rest)
		if !ok || place <= last || behind == "" {
			return ""
		}
		last, rest = place, behind[1:]
		switch behind[0] {
		case ';':
			return s[:len(s)-len(rest)]
		case '+':
		default:
			return ""
		}
	}
}

func cutPair(s string) (place int, rest string, ok bool) {
	place, rest, ok = cutNumber(s, '=')
	if !ok {
		return 0, "", false
	}
	size, rest, ok := cutNumber(rest, ':')
	if !ok || size > len(rest) {
		return 0, "", false
	}
	return place, rest[size:], true
}

// cutNumber tells the number at the beginning of s, and what stands behind the sign that must follow it.
func cutNumber(s string, sign byte) (number int, rest string, ok bool) {
	size := 0
	for size < len(s) && size < maxDigits && isDigit(s[size]) {
		number = number*10 + int(s[size]-'0')
		size++
	}
	if size == 0 || size > 1 && s[0] == '0' || size == len(s) || s[size] != sign {
		return 0, "", false
	}
	return number, s[size+1:], true
}
