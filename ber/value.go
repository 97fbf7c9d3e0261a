package ber

import "roster/api"

// Int: P2.3.
func Int(b []byte, t api.Tlv) (int64, api.Errno) {
	body, e := bodyOf(b, t)
	if e != api.OK {
		return 0, e
	}
	if len(body) == 0 || len(body) > maxOctets || padded(body) {
		return 0, api.ErrInt
	}
	v := int64(int8(body[0])) // its highest bit is the sign
	for _, o := range body[1:] {
		v <<= 8
		v |= int64(o)
	}
	return v, api.OK
}

// padded tells whether the first octet says nothing that the second one does not: the first nine bits are all alike.
func padded(body []byte) bool {
	if len(body) < 2 {
		return false
	}
	nine := uint16(body[0])
	nine <<= 8
	nine |= uint16(body[1])
	nine >>= 7
	return nine == 0 || nine == 1<<9-1
}

// Flag: P2.3.
func Flag(b []byte, t api.Tlv) (bool, api.Errno) {
	body, e := bodyOf(b, t)
	if e != api.OK {
		return false, e
	}
	switch string(body) {
	case flagTrue:
		return true, api.OK
	case flagFalse:
		return false, api.OK
	}
	return false, api.ErrBool
}

// Text: P2.3.
func Text(b []byte, t api.Tlv) (string, api.Errno) {
	body, e := bodyOf(b, t)
	if e != api.OK {
		return "", e
	}
	return string(body), api.OK
}

// bodyOf is the body of an item that is not made of others.
func bodyOf(b []byte, t api.Tlv) ([]byte, api.Errno) {
	if !within(t.From, t.To, len(b)) {
		return nil, api.ErrArg
	}
	if t.Cons {
		return nil, api.ErrTag
	}
	return b[t.From:t.To], api.OK
}
