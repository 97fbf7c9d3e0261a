package ber

import (
	"slices"

	"roster/api"
)

const (
	maxOpen = api.MaxDepth + 16
	maxLaid = 1 << 26
)

// Writer lays items one behind the other and in one another.
type Writer struct {
	laid []byte
	open []int // where the bodies of the open items begin, the outermost first; a body's length is put ahead of it when it is closed
}

// New: P2.4.
func New() *Writer { return &Writer{} }

// Open: P2.4.
func (w *Writer) Open(class int8, number int) api.Errno {
	if w == nil {
		return api.ErrNil
	}
	if !mayTag(class, number) {
		return api.ErrArg
	}
	if len(w.open) >= maxOpen {
		return api.ErrDeep
	}
	if w.closed(1+lengthOctets(0)) > maxLaid {
		return api.ErrLong
	}
	w.laid = append(w.laid, tagOf(class, number)|madeBit)
	w.open = append(w.open, len(w.laid))
	return api.OK
}

// Close: P2.4.
func (w *Writer) Close() api.Errno {
	if w == nil {
		return api.ErrNil
	}
	if len(w.open) == 0 {
		return api.ErrArg
	}
	last := len(w.open) - 1
	from := w.open[last]
	w.open = w.open[:last]
	length := appendLength(nil, len(w.laid)-from)
	w.laid = slices.Insert(w.laid, from, length...)
	return api.OK
}

// Int: P2.4.
func (w *Writer) Int(class int8, number int, v int64) api.Errno {
	octets := 1
	for v>>(8*octets-1) != 0 && v>>(8*octets-1) != -1 {
		octets++
	}
	var body [maxOctets]byte
	for k := range octets {
		body[octets-1-k] = byte(v)
		v >>= 8
	}
	return w.lay(class, number, string(body[:octets]))
}

// Flag: P2.4.
func (w *Writer) Flag(class int8, number int, v bool) api.Errno {
	if v {
		return w.lay(class, number, flagTrue)
	}
	return w.lay(class, number, flagFalse)
}

// Text: P2.4.
func (w *Writer) Text(class int8, number int, s string) api.Errno {
	return w.lay(class, number, s)
}

// Bytes: P2.4.
func (w *Writer) Bytes() ([]byte, api.Errno) {
	if w == nil {
		return nil, api.ErrNil
	}
	if len(w.open) > 0 {
		return nil, api.ErrShort
	}
	return slices.Clone(w.laid), api.OK
}

// lay lays an item that is not made of others.
func (w *Writer) lay(class int8, number int, body string) api.Errno {
	if w == nil {
		return api.ErrNil
	}
	if !mayTag(class, number) {
		return api.ErrArg
	}
	if w.closed(1+lengthOctets(len(body))+len(body)) > maxLaid {
		return api.ErrLong
	}
	w.laid = append(w.laid, tagOf(class, number))
	w.laid = appendLength(w.laid, len(body))
	w.laid = append(w.laid, body...)
	return api.OK
}

// closed tells how many bytes there would be if more of them were laid, and then all that is open closed.
func (w *Writer) closed(more int) int {
	end := len(w.laid) + more
	for _, from := range slices.Backward(w.open) { // an inner length makes the bodies around it longer
		end += lengthOctets(end - from)
	}
	return end
}

func mayTag(class int8, number int) bool {
	return 0 <= class && class <= 3 && 0 <= number && number < highForm
}

func tagOf(class int8, number int) byte {
	tag := byte(class)
	tag <<= classShift
	tag |= byte(number)
	return tag
}

// lengthOctets tells in how many octets a length is written.
func lengthOctets(length int) int {
	if length < greatBit {
		return 1
	}
	octets := 1
	for ; length > 0; length >>= 8 {
		octets++
	}
	return octets
}

func appendLength(out []byte, length int) []byte {
	octets := lengthOctets(length)
	if octets == 1 {
		return append(out, byte(length))
	}
	octets--
	out = append(out, greatBit|byte(octets))
	for octets > 0 {
		octets--
		out = append(out, byte(length>>(8*octets)))
	}
	return out
}
