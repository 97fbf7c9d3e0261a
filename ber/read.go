package ber

import (
	"iter"

	"roster/api"
)

// Head: P2.1.
func Head(b []byte, at, end int) (api.Tlv, api.Errno) {
	if !within(at, end, len(b)) {
		return api.Tlv{}, api.ErrArg
	}
	head := b[at:end]
	if len(head) == 0 {
		return api.Tlv{}, api.ErrShort
	}
	tag := head[0]
	if tag&numberBits == highForm {
		return api.Tlv{}, api.ErrTag
	}
	octets, length, e := bodyLength(head[1:])
	if e != api.OK {
		return api.Tlv{}, e
	}
	from := at + 1 + octets
	t := api.Tlv{Cons: tag&madeBit != 0, Number: int(tag & numberBits), From: from, To: from + length}
	tag >>= classShift
	t.Class = int8(tag)
	return t, api.OK
}

// bodyLength reads the length at the beginning of rest, which ends where the body must: how many octets it is written in, and what it says.
func bodyLength(rest []byte) (octets, length int, e api.Errno) {
	if len(rest) == 0 {
		return 0, 0, api.ErrShort
	}
	first := rest[0]
	if first == openLength || first == noLength {
		return 0, 0, api.ErrForm
	}
	octets = 1
	if first&greatBit == 0 {
		length = int(first)
	} else {
		octets += int(first & countBits)
		if octets > len(rest) {
			return 0, 0, api.ErrShort
		}
		length = greatLength(rest[1:octets], len(rest)-octets)
	}
	if length > len(rest)-octets {
		return 0, 0, api.ErrShort
	}
	return octets, length, api.OK
}

// greatLength reads a length of many octets. Any that is above most is told as one more than most: no int holds them all.
func greatLength(octets []byte, most int) int {
	length := uint64(0)
	for _, o := range octets {
		length <<= 8
		length |= uint64(o)
		if length > uint64(most) {
			return most + 1
		}
	}
	return int(length)
}

// Whole: P2.2.
func Whole(b []byte, from, to int) ([]api.Tlv, api.Errno) {
	items, e := sideBySide(b, from, to)
	if e != api.OK {
		return nil, e
	}
	return items, api.OK
}

// Each: P2.2.
func Each(b []byte, from, to int) iter.Seq2[int, api.Tlv] {
	items, _ := sideBySide(b, from, to) // now, since the bytes may be others when it is gone over
	return func(yield func(int, api.Tlv) bool) {
		at := from
		for _, item := range items {
			if !yield(at, item) {
				return
			}
			at = item.To
		}
	}
}

// sideBySide reads items as far as there is no error, and tells that error beside them.
func sideBySide(b []byte, from, to int) ([]api.Tlv, api.Errno) {
	if !within(from, to, len(b)) {
		return nil, api.ErrArg
	}
	var items []api.Tlv
	for at := from; at < to; {
		item, e := Head(b, at, to)
		if e != api.OK {
			return items, e
		}
		items = append(items, item)
		at = item.To
	}
	return items, api.OK
}
