package idlist

import (
	"math"

	"roster/api"
)

const (
	groupBits = 7
	moreBit   = 1 << groupBits // set in each byte of a number but the last
	tenth     = 9              // the place of the last byte that a number can have
	tenthMost = 1              // nine groups are 63 bits: one is left for the tenth
)

// Pack: P4.6.
func Pack(l []uint64) []byte {
	s := set(l)
	b := putNumber(nil, uint64(len(s)))
	for at, id := range s {
		if at > 0 {
			id -= s[at-1] + 1
		}
		b = putNumber(b, id)
	}
	return b
}

func putNumber(b []byte, n uint64) []byte {
	for ; n >= moreBit; n >>= groupBits {
		b = append(b, byte(n)|moreBit)
	}
	return append(b, byte(n))
}

// Unpack: P4.6. How many numbers are said to come sets no memory aside: the bytes need not bear it out.
func Unpack(b []byte) ([]uint64, api.Errno) {
	count, left, e := takeNumber(b)
	if e != api.OK {
		return nil, e
	}
	var l []uint64
	for uint64(len(l)) < count {
		var n uint64
		n, left, e = takeNumber(left)
		if e != api.OK {
			return nil, e
		}
		id, fits := next(l, n)
		if !fits {
			return nil, api.ErrArg
		}
		l = append(l, id)
	}
	if len(left) > 0 {
		return nil, api.ErrArg
	}
	return l, api.OK
}

// takeNumber reads the number at b's beginning, and hands on what is left behind it.
func takeNumber(b []byte) (uint64, []byte, api.Errno) {
	n := uint64(0)
	for at, c := range b {
		if at == tenth && c > tenthMost || at > 0 && c == 0 {
			return 0, nil, api.ErrArg
		}
		n |= uint64(c%moreBit) << (groupBits * at)
		if c < moreBit {
			return n, b[at+1 : len(b) : len(b)], api.OK
		}
	}
	return 0, nil, api.ErrShort
}

// next gives the number that n stands for behind the list's last one; false, where it would be too great.
func next(l []uint64, n uint64) (uint64, bool) {
	if len(l) == 0 {
		return n, true
	}
	last := l[len(l)-1]
	if n >= math.MaxUint64-last {
		return 0, false
	}
	return last + n + 1, true
}
