package name

import (
	"strings"

	"roster/api"
	"roster/octet"
)

// What may stand next in a name's text.
const (
	atStart = iota // a pair, or nothing at all
	atPair         // a type's word and the = behind it
	atValue        // a value's first byte, or what stands behind the value
	inValue        // a further byte of it, or what stands behind it
)

// special bytes stand bare nowhere in a value; signs may stand behind a \ for themselves; apart are those at which a run of bytes that stand for themselves ends.
const (
	special = `"+,;<>\`
	signs   = special + "=# "
	apart   = special + "\x00 "
)

// none is no byte.
const none = -1

// reader goes through a name's text; where it gives up, at is the place of the fault.
type reader struct {
	text  string
	at    int
	word  string // the pair's type
	from  int    // where the pair's value begins
	pairs []api.Ava
	parts []api.Rdn
}

// Parse: P6.1.
func Parse(s string) (api.Name, error) {
	if len(s) > api.MaxText {
		return api.Name{}, &api.Fault{Code: api.ErrLong}
	}
	r := reader{text: s}
	if e := r.read(); e != api.OK {
		return api.Name{}, &api.Fault{Code: e, At: r.at, Word: s[r.at:min(r.at+1, len(s))]}
	}
	return api.Name{Rdns: r.parts}, nil
}

func (r *reader) read() api.Errno {
	next, e := atStart, api.OK
look:
	switch next {
	case atStart:
		goto start
	case atPair:
		goto pair
	case atValue:
		goto value
	case inValue:
		goto more
	}
start:
	if r.text == "" {
		return api.OK
	}
pair:
	if e = r.takeType(); e != api.OK {
		return e
	}
	next = atValue
	goto look
value:
	if b := r.byteAt(r.at); b == ' ' || b == '#' {
		return api.ErrSyntax
	}
more:
	if r.isBehindValue(r.at) {
		goto behind
	}
	if e = r.takeValue(); e != api.OK {
		return e
	}
	next = inValue
	goto look
behind:
	if e = r.endPair(); e != api.OK || r.at == len(r.text) {
		return e
	}
	r.at++
	next = atPair
	goto look
}

// takeType takes a type's word and the = behind it.
func (r *reader) takeType() api.Errno {
	from := r.at
	size, whole := wordSize(r.text[from:])
	r.at += size
	if r.at == len(r.text) {
		return api.ErrShort
	}
	if !whole || r.text[r.at] != '=' {
		return api.ErrSyntax
	}
	r.word = r.text[from:r.at]
	r.at++
	r.from = r.at
	return api.OK
}

// takeValue takes some of a value: an escape, a blank, or a run of other bytes.
func (r *reader) takeValue() api.Errno {
	size := 1
	switch r.text[r.at] {
	case '\\':
		if _, size = escape(r.text[r.at:]); size == 0 {
			return api.ErrHex
		}
	case ' ':
		if r.isBehindValue(r.at + 1) {
			return api.ErrSyntax
		}
	default:
		if size = runSize(r.text[r.at:]); size == 0 {
			return api.ErrSyntax
		}
	}
	r.at += size
	return api.OK
}

// runSize tells how many bytes at the beginning of s stand for themselves wherever they are.
func runSize(s string) int {
	if size := strings.IndexAny(s, apart); size >= 0 {
		return size
	}
	return len(s)
}

// escape tells the byte that is meant by the \ at the beginning of s with what belongs to it, and how many bytes these are: 0, if nothing belongs to it.
func escape(s string) (said string, size int) {
	if len(s) > 1 && strings.IndexByte(signs, s[1]) >= 0 {
		return s[1:2], len(`\,`)
	}
	digits := s[:min(len(`\2c`), len(s))]
	said, e := octet.Unescape(digits)
	if e != api.OK {
		return "", 0
	}
	return said, len(digits)
}

// meaning tells what the text of a value means. One without a \ is not copied, so that names deep within names do not pile up.
func meaning(text string) string {
	at := strings.IndexByte(text, '\\')
	if at < 0 {
		return text
	}
	var out []byte
	for ; at >= 0; at = strings.IndexByte(text, '\\') {
		said, size := escape(text[at:])
		out = append(out, text[:at]...)
		out = append(out, said...)
		text = text[at+size:]
	}
	return string(append(out, text...))
}

// endPair ends a pair, and, if no + stands behind it, its part; it refuses the , or the + if what it begins is one too many.
func (r *reader) endPair() api.Errno {
	r.pairs = append(r.pairs, api.Ava{Type: r.word, Value: meaning(r.text[r.from:r.at])})
	sign := r.byteAt(r.at)
	if sign == '+' {
		return longIf(len(r.pairs) == api.MaxAvas)
	}
	r.parts = append(r.parts, api.Rdn{Avas: r.pairs})
	r.pairs = nil
	return longIf(sign == ',' && len(r.parts) == api.MaxRdns)
}

func longIf(tooMany bool) api.Errno {
	if tooMany {
		return api.ErrLong
	}
	return api.OK
}

func (r *reader) isBehindValue(at int) bool {
	b := r.byteAt(at)
	return b == none || b == ',' || b == '+'
}

func (r *reader) byteAt(at int) int {
	if at >= len(r.text) {
		return none
	}
	return int(r.text[at])
}
