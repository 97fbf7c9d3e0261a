package name

import (
	"strings"
	"unicode/utf8"

	"roster/api"
	"roster/octet"
)

// Print: P6.2.
func Print(n api.Name) (string, api.Errno) {
	if e := check(n); e != api.OK {
		return "", e
	}
	var out []byte
	for k, part := range n.Rdns {
		if k > 0 {
			out = append(out, ',')
		}
		for m, pair := range part.Avas {
			if m > 0 {
				out = append(out, '+')
			}
			if len(out)+len(pair.Type)+len(pair.Value) >= api.MaxText { // ahead of writing it: it may be of any size
				return "", api.ErrLong
			}
			out = appendPair(out, pair)
		}
	}
	if len(out) > api.MaxText {
		return "", api.ErrLong
	}
	return string(out), api.OK
}

func check(n api.Name) api.Errno {
	if len(n.Rdns) > api.MaxRdns {
		return api.ErrLong
	}
	for _, part := range n.Rdns {
		if len(part.Avas) > api.MaxAvas {
			return api.ErrLong
		}
	}
	for _, part := range n.Rdns {
		if !isPart(part) {
			return api.ErrName
		}
	}
	return api.OK
}

func isPart(part api.Rdn) bool {
	for _, pair := range part.Avas {
		if !isTypeWord(pair.Type) {
			return false
		}
	}
	return len(part.Avas) > 0
}

func appendPair(out []byte, pair api.Ava) []byte {
	out = append(out, pair.Type...)
	out = append(out, '=')
	last := len(pair.Value) - 1
	for at := 0; at <= last; {
		_, size := utf8.DecodeRuneInString(pair.Value[at:])
		sign := pair.Value[at : at+size]
		b := sign[0]
		switch {
		case b < ' ' || b == 0x7f || !octet.Valid(sign):
			out = append(out, '\\')
			sign = octet.Hex(sign)
		case strings.IndexByte(special, b) >= 0, b == ' ' && (at == 0 || at == last), b == '#' && at == 0:
			out = append(out, '\\')
		}
		out = append(out, sign...)
		at += size
	}
	return out
}
