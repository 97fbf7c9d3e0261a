package octet

import "roster/api"

// Escape: P1.3.
func Escape(s string) string {
	out := make([]byte, 0, len(s))
	for at := range s {
		n := width(s[at:])
		if n == 0 || reserved(s[at]) {
			out = append(out, '\\')
			out = appendHex(out, s[at])
			continue
		}
		out = append(out, s[at:at+n]...)
	}
	return string(out)
}

// Unescape: P1.3.
func Unescape(s string) (string, api.Errno) {
	out := make([]byte, 0, len(s))
	fault := api.OK
	behind := 0 // where the last escape ends: its digits are not looked at as characters
text:
	for at := range s {
		if at < behind {
			continue
		}
		n := width(s[at:])
		switch {
		case s[at] == '\\':
			b, ok := escaped(s[at+1:])
			if !ok {
				fault = api.ErrHex
				break text
			}
			out = append(out, b)
			behind = at + 3
		case n == 0:
			fault = api.ErrUTF
			break text
		case reserved(s[at]):
			fault = api.ErrEscape
			break text
		default:
			out = append(out, s[at:at+n]...)
		}
	}
	if fault != api.OK {
		return "", fault
	}
	return string(out), api.OK
}

// reserved tells which bytes never stand for themselves in a filter's text.
func reserved(b byte) bool {
	switch b {
	case 0, '(', ')', '*', '\\':
		return true
	}
	return false
}

// escaped reads the two digits that stand behind a \.
func escaped(s string) (byte, bool) {
	if len(s) < 2 {
		return 0, false
	}
	high, okHigh := anyDigit(s[0])
	low, okLow := anyDigit(s[1])
	return high<<4 | low, okHigh && okLow
}
