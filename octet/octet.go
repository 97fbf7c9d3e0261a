// Package octet is layer 1: bytes and characters, digits for bytes, the escapes of filters, base 64 (shared/doc/01-octet.md).
package octet

// beginning is one row of the chapter's table of characters: which first bytes it has, where its second byte lies, and how many bytes it is in all. Third and fourth bytes lie in one range in every row, so they need no columns.
type beginning struct {
	first, last byte
	low, high   byte
	width       int
}

const (
	tailLow  = 0x80
	tailHigh = 0xbf
)

var beginnings = []beginning{
	{0x00, 0x7f, 0, 0, 1},
	{0xc2, 0xdf, tailLow, tailHigh, 2},
	{0xe0, 0xe0, 0xa0, tailHigh, 3},
	{0xe1, 0xec, tailLow, tailHigh, 3},
	{0xed, 0xed, tailLow, 0x9f, 3},
	{0xee, 0xef, tailLow, tailHigh, 3},
	{0xf0, 0xf0, 0x90, tailHigh, 4},
	{0xf1, 0xf3, tailLow, tailHigh, 4},
	{0xf4, 0xf4, tailLow, 0x8f, 4},
}

// Valid: P1.1.
func Valid(s string) bool {
	for at := range s {
		if width(s[at:]) == 0 {
			return false
		}
	}
	return true
}

// width tells how many bytes the character at the beginning of s has: 0, if the first byte stands alone. A range over a text takes steps of just these widths, and of one byte where it is 0.
func width(s string) int {
rows:
	for _, row := range beginnings {
		if s[0] < row.first || s[0] > row.last {
			continue
		}
		if len(s) < row.width {
			break // no first byte stands in two rows
		}
		low, high := row.low, row.high
		for k := 1; k < row.width; k++ {
			if s[k] < low || s[k] > high {
				break rows
			}
			low, high = tailLow, tailHigh
		}
		return row.width
	}
	return 0
}
