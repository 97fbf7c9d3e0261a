package octet

import "roster/api"

// signs64 are the signs of base 64, each at the place of its value.
const signs64 = "ABCDEFGHIJKLMNOPQRSTUVWXYZabcdefghijklmnopqrstuvwxyz0123456789+/"

// Base64: P1.4.
func Base64(s string) string {
	out := make([]byte, 0, (len(s)+2)/3*4)
	for ; len(s) >= 3; s = s[3:] {
		bits := uint32(s[0])<<16 | uint32(s[1])<<8 | uint32(s[2])
		out = append(out, sign64(bits>>18), sign64(bits>>12), sign64(bits>>6), sign64(bits))
	}
	switch len(s) {
	case 1:
		bits := uint32(s[0]) << 16
		out = append(out, sign64(bits>>18), sign64(bits>>12), '=', '=')
	case 2:
		bits := uint32(s[0])<<16 | uint32(s[1])<<8
		out = append(out, sign64(bits>>18), sign64(bits>>12), sign64(bits>>6), '=')
	}
	return string(out)
}

// Unbase64: P1.4.
func Unbase64(s string) (string, api.Errno) {
	if len(s)%4 != 0 {
		return "", api.ErrBase
	}
	out := make([]byte, 0, len(s)/4*3)
	for ; len(s) > 0; s = s[4:] {
		signs := 4
		if len(s) == 4 { // a = may stand at the very end only
			signs = signsAtEnd(s)
		}
		bits, ok := bits64(s[:signs])
		if !ok {
			return "", api.ErrBase
		}
		three := [3]byte{byte(bits >> 16), byte(bits >> 8), byte(bits)}
		out = append(out, three[:signs-1]...)
	}
	return string(out), api.OK
}

// sign64 is the sign of the lowest six bits.
func sign64(bits uint32) byte {
	return signs64[bits&63]
}

// value64 is the value of a sign of base 64.
func value64(sign byte) (uint32, bool) {
	switch {
	case 'A' <= sign && sign <= 'Z':
		return uint32(sign - 'A'), true
	case 'a' <= sign && sign <= 'z':
		return uint32(sign-'a') + 26, true
	case '0' <= sign && sign <= '9':
		return uint32(sign-'0') + 52, true
	case sign == '+':
		return 62, true
	case sign == '/':
		return 63, true
	}
	return 0, false
}

// signsAtEnd tells how many of the last four bytes stand ahead of = or ==.
func signsAtEnd(s string) int {
	switch {
	case s[2:] == "==":
		return 2
	case s[3] == '=':
		return 3
	}
	return 4
}

// bits64 lays the values of two to four signs into 24 bits, the first one highest. It refuses signs with a bit set behind their last whole byte: Base64 leaves noughts there.
func bits64(signs string) (uint32, bool) {
	bits := uint32(0)
	for k := range len(signs) {
		v, ok := value64(signs[k])
		if !ok {
			return 0, false
		}
		bits |= v << (18 - 6*k)
	}
	whole := len(signs) - 1
	behind := uint32(1)<<(24-8*whole) - 1
	return bits, bits&behind == 0
}
