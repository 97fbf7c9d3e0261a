package octet

import "roster/api"

// smallDigits are the digits to the base 16, each at the place of what it counts.
const smallDigits = "0123456789abcdef"

// Hex: P1.2.
func Hex(s string) string {
	out := make([]byte, 0, 2*len(s))
	for k := range len(s) {
		out = appendHex(out, s[k])
	}
	return string(out)
}

// Unhex: P1.2.
func Unhex(s string) (string, api.Errno) {
	if len(s)%2 != 0 {
		return "", api.ErrHex
	}
	out := make([]byte, 0, len(s)/2)
	for k := 0; k < len(s); k += 2 {
		high, okHigh := smallDigit(s[k])
		low, okLow := smallDigit(s[k+1])
		if !okHigh || !okLow {
			return "", api.ErrHex
		}
		out = append(out, high<<4|low)
	}
	return string(out), api.OK
}

func appendHex(out []byte, b byte) []byte {
	return append(out, smallDigits[b>>4], smallDigits[b&15])
}

func smallDigit(b byte) (byte, bool) {
	switch {
	case '0' <= b && b <= '9':
		return b - '0', true
	case 'a' <= b && b <= 'f':
		return b - 'a' + 10, true
	}
	return 0, false
}

// anyDigit takes great letters too: escapes have them, Hex has not.
func anyDigit(b byte) (byte, bool) {
	if 'A' <= b && b <= 'F' {
		return b - 'A' + 10, true
	}
	return smallDigit(b)
}
