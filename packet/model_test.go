package packet_test

import (
	"bytes"
	"encoding/binary"
	"encoding/hex"
	"fmt"
	"math/rand"
	"regexp"
	"slices"
	"strings"
	"testing"

	"roster/api"
	"roster/ber"
	"roster/filter"
	"roster/packet"
)

func item(kind int8, desc, value string) api.Filter {
	return api.Filter{Kind: kind, Desc: desc, Value: value}
}

func equal(desc, value string) api.Filter { return item(api.FEqual, desc, value) }

func have(desc string) api.Filter { return item(api.FHave, desc, "") }

func part(desc, start, end string, middles ...string) api.Filter {
	return api.Filter{Kind: api.FPart, Desc: desc, Start: start, Middles: middles, End: end}
}

func rule(desc, name, value string) api.Filter {
	return api.Filter{Kind: api.FRule, Desc: desc, Rule: name, Value: value}
}

func ruleDn(desc, name, value string) api.Filter {
	return api.Filter{Kind: api.FRule, Desc: desc, Rule: name, Value: value, Dn: true}
}

func and(kids ...api.Filter) api.Filter { return api.Filter{Kind: api.FAnd, Kids: kids} }

func or(kids ...api.Filter) api.Filter { return api.Filter{Kind: api.FOr, Kids: kids} }

func not(kid api.Filter) api.Filter { return api.Filter{Kind: api.FNot, Kids: []api.Filter{kid}} }

// around has so many of a kind, one in the other, around f.
func around(kind int8, many int, f api.Filter) api.Filter {
	for range many {
		f = api.Filter{Kind: kind, Kids: []api.Filter{f}}
	}
	return f
}

// filled is a text of so many bytes: a row of one.
func filled(one string, size int) string { return strings.Repeat(one, size) }

// raw reads bytes to the base 16, blanks between them.
func raw(s string) []byte {
	b, err := hex.DecodeString(strings.ReplaceAll(s, " ", ""))
	if err != nil {
		panic(err)
	}
	return b
}

// shortest is a length in as few octets as can be.
func shortest(size int) []byte {
	if size < 128 {
		return []byte{byte(size)}
	}
	var octets []byte
	for ; size > 0; size /= 256 {
		octets = append([]byte{byte(size % 256)}, octets...)
	}
	return append([]byte{0x80 + byte(len(octets))}, octets...)
}

// made is an item of a tag, with bodies one behind the other.
func made(tag byte, bodies ...[]byte) []byte {
	body := slices.Concat(bodies...)
	return slices.Concat([]byte{tag}, shortest(len(body)), body)
}

// said is an item of a tag with a text as its body.
func said(tag byte, s string) []byte { return made(tag, []byte(s)) }

// wrapped has so many items of a tag, one in the other, around b.
func wrapped(tag byte, many int, b []byte) []byte {
	for range many {
		b = made(tag, b)
	}
	return b
}

func brief(x any) string {
	text := fmt.Sprintf("%q", x)
	if b, ok := x.([]byte); ok {
		text = fmt.Sprintf("% x", b)
	}
	if len(text) > 300 {
		return fmt.Sprintf("%s..%s (%d bytes)", text[:150], text[len(text)-100:], len(text))
	}
	return text
}

func shown(f api.Filter) string {
	text := fmt.Sprintf("%d %s %s %s*%s*%s %s %v", f.Kind, brief(f.Desc), brief(f.Value), brief(f.Start), brief(f.Middles), brief(f.End), brief(f.Rule), f.Dn)
	var kids []string
	for _, kid := range f.Kids[:min(len(f.Kids), 5)] {
		kids = append(kids, shown(kid))
	}
	text += fmt.Sprintf(" %d:(%s)", len(f.Kids), strings.Join(kids, ", "))
	if len(text) > 600 {
		return fmt.Sprintf("%s.. (%d bytes)", text[:600], len(text))
	}
	return text
}

// isSame holds two filters against one another; lists without anything are the same (R6).
func isSame(a, b api.Filter) bool {
	return a.Kind == b.Kind && a.Desc == b.Desc && a.Value == b.Value && a.Start == b.Start && a.End == b.End && a.Rule == b.Rule && a.Dn == b.Dn &&
		slices.Equal(a.Middles, b.Middles) && slices.EqualFunc(a.Kids, b.Kids, isSame)
}

// modelEncode: of a filter that may be.
func modelEncode(f api.Filter) []byte {
	var body []byte
	add := func(tag byte, s string, some bool) {
		if some {
			body = append(body, said(tag, s)...)
		}
	}
	switch f.Kind {
	case api.FAnd, api.FOr, api.FNot:
		for _, kid := range f.Kids {
			body = append(body, modelEncode(kid)...)
		}
		return made(map[int8]byte{api.FAnd: 0xa0, api.FOr: 0xa1, api.FNot: 0xa2}[f.Kind], body)
	case api.FHave:
		return said(0x87, f.Desc)
	case api.FPart:
		add(0x80, f.Start, f.Start != "")
		for _, middle := range f.Middles {
			add(0x81, middle, true)
		}
		add(0x82, f.End, f.End != "")
		return made(0xa4, said(0x04, f.Desc), made(0x30, body))
	case api.FRule:
		add(0x81, f.Rule, f.Rule != "")
		add(0x82, f.Desc, f.Desc != "")
		add(0x83, f.Value, true)
		add(0x84, "\xff", f.Dn)
		return made(0xa9, body)
	}
	tag := map[int8]byte{api.FEqual: 0xa3, api.FMore: 0xa5, api.FLess: 0xa6, api.FLike: 0xa8}[f.Kind]
	return made(tag, said(0x04, f.Desc), said(0x04, f.Value))
}

const wordForm = `(?:[A-Za-z][A-Za-z0-9-]*|(?:0|[1-9][0-9]*)(?:\.(?:0|[1-9][0-9]*))+)`

var (
	ofWord = regexp.MustCompile(`^` + wordForm + `$`)
	ofDesc = regexp.MustCompile(`^` + wordForm + `(?:;[A-Za-z0-9-]+)*$`)
	ofDn   = regexp.MustCompile(`^[dD][nN]$`)
)

// A form lists which rows of items may stand in an item: each row a word, an item a letter, f a filter's. A letter of again may stand there again where it stood.
type form struct {
	tags  map[byte]byte
	words []string
	again string
}

var (
	formOfTwo    = form{map[byte]byte{0x04: 't'}, []string{"tt"}, ""}
	formOfPieces = form{map[byte]byte{0x80: 's', 0x81: 'm', 0x82: 'e'}, []string{"s", "m", "e", "sm", "se", "me", "sme"}, "m"}
	forms        = map[byte]form{
		0xa0: {nil, []string{"f"}, "f"}, 0xa1: {nil, []string{"f"}, "f"}, 0xa2: {nil, []string{"f"}, ""},
		0xa3: formOfTwo, 0xa5: formOfTwo, 0xa6: formOfTwo, 0xa8: formOfTwo,
		0xa4: {map[byte]byte{0x04: 't', 0x30: 'p'}, []string{"tp"}, ""},
		0xa9: {map[byte]byte{0x81: 'r', 0x82: 'd', 0x83: 'v', 0x84: 'n'}, []string{"v", "rv", "dv", "rdv", "vn", "rvn", "dvn", "rdvn"}, ""},
	}
	kinds = map[byte]int8{0xa0: api.FAnd, 0xa1: api.FOr, 0xa2: api.FNot, 0xa3: api.FEqual, 0xa4: api.FPart, 0xa5: api.FMore, 0xa6: api.FLess, 0x87: api.FHave, 0xa8: api.FLike, 0xa9: api.FRule}
)

// goesOn tells whether a row of the form begins with row and is longer; letter is its next one, or 0 for any.
func (x form) goesOn(row string, letter byte) bool {
	if row != "" && strings.Contains(x.again, row[len(row)-1:]) && (letter == 0 || letter == row[len(row)-1]) {
		return true
	}
	return slices.ContainsFunc(x.words, func(word string) bool {
		return len(word) > len(row) && strings.HasPrefix(word, row) && (letter == 0 || letter == word[len(row)])
	})
}

func (x form) isWhole(row string) bool { return slices.Contains(x.words, row) }

type wrongAt struct {
	code api.Errno
	at   int
}

// model reads as the chapter says it, each item's body held against the rows of its form.
type model struct {
	b     []byte
	parts int
}

// body goes over the items in one that begins at a place; take is told each one's letter.
func (m *model) body(x form, at int, t api.Tlv, above int, take func(letter byte, at int, t api.Tlv) wrongAt) wrongAt {
	row := ""
	for next := t.From; next < t.To; {
		kid, e := ber.Head(m.b, next, t.To)
		if e != api.OK {
			return wrongAt{e, next}
		}
		letter := x.tags[m.b[next]]
		if x.goesOn(row, 'f') {
			letter = 'f'
			if wrong := m.bounds(next, above); wrong.code != api.OK {
				return wrong
			}
			if _, ok := kinds[m.b[next]]; !ok {
				return wrongAt{api.ErrTag, next}
			}
		}
		switch {
		case !x.goesOn(row, 0):
			return wrongAt{api.ErrMore, next}
		case letter == 0 || !x.goesOn(row, letter):
			return wrongAt{api.ErrTag, next}
		}
		if wrong := take(letter, next, kid); wrong.code != api.OK {
			return wrong
		}
		if row == "" || row[len(row)-1] != letter || !strings.Contains(x.again, string(letter)) {
			row += string(letter)
		}
		next = kid.To
	}
	if !x.isWhole(row) {
		return wrongAt{api.ErrFilter, at}
	}
	return wrongAt{}
}

func (m *model) bounds(at, above int) wrongAt {
	if above >= api.MaxDepth {
		return wrongAt{api.ErrDeep, at}
	}
	if m.b[at] == 0xa2 {
		return wrongAt{}
	}
	if m.parts == api.MaxNodes {
		return wrongAt{api.ErrLong, at}
	}
	m.parts++
	return wrongAt{}
}

func (m *model) text(to *string, at int, t api.Tlv) wrongAt {
	if t.To-t.From > api.MaxText {
		return wrongAt{api.ErrLong, at}
	}
	*to = string(m.b[t.From:t.To])
	return wrongAt{}
}

// filter reads one of a known tag, whose bounds were looked at.
func (m *model) filter(f *api.Filter, at int, t api.Tlv, above int) wrongAt {
	f.Kind = kinds[m.b[at]]
	if f.Kind == api.FHave {
		if wrong := m.text(&f.Desc, at, t); wrong.code != api.OK {
			return wrong
		}
		return modelCheck(*f, at)
	}
	texts := []*string{&f.Desc, &f.Value}
	wrong := m.body(forms[m.b[at]], at, t, above+1, func(letter byte, at int, t api.Tlv) wrongAt {
		switch letter {
		case 'f':
			f.Kids = append(f.Kids, api.Filter{})
			return m.filter(&f.Kids[len(f.Kids)-1], at, t, above+1)
		case 't':
			to := texts[0]
			texts = texts[1:]
			return m.text(to, at, t)
		case 'p':
			return m.pieces(f, at, t)
		case 'n':
			f.Dn = string(m.b[t.From:t.To]) == "\xff"
			if !f.Dn && string(m.b[t.From:t.To]) != "\x00" {
				return wrongAt{api.ErrBool, at}
			}
			return wrongAt{}
		}
		return m.text(map[byte]*string{'r': &f.Rule, 'd': &f.Desc, 'v': &f.Value}[letter], at, t)
	})
	if wrong.code != api.OK {
		return wrong
	}
	if f.Kind == api.FPart && f.Start+f.End+strings.Join(f.Middles, "") == "" {
		f.Kind = api.FHave
	}
	return modelCheck(*f, at)
}

func (m *model) pieces(f *api.Filter, at int, t api.Tlv) wrongAt {
	return m.body(formOfPieces, at, t, 0, func(letter byte, at int, t api.Tlv) wrongAt {
		middle := ""
		wrong := m.text(map[byte]*string{'s': &f.Start, 'm': &middle, 'e': &f.End}[letter], at, t)
		if middle != "" {
			f.Middles = append(f.Middles, middle)
		}
		return wrong
	})
}

// modelCheck: ErrFilter, if the item's descriptions and rules are none.
func modelCheck(f api.Filter, at int) wrongAt {
	right := ofDesc.MatchString(f.Desc)
	switch f.Kind {
	case api.FAnd, api.FOr, api.FNot:
		right = true
	case api.FRule:
		right = (f.Desc == "" || right) && (f.Rule == "" || ofWord.MatchString(f.Rule) && !ofDn.MatchString(f.Rule)) && f.Desc+f.Rule != ""
	}
	if !right {
		return wrongAt{api.ErrFilter, at}
	}
	return wrongAt{}
}

func modelTake(b []byte, at, end int) (f api.Filter, next int, wrong wrongAt) {
	if 0 <= at && at <= end && end <= len(b) && end-at > api.MaxBytes {
		return api.Filter{}, 0, wrongAt{api.ErrLong, 0}
	}
	t, e := ber.Head(b, at, end)
	if e != api.OK {
		return api.Filter{}, 0, wrongAt{e, at}
	}
	m := model{b: b}
	if _, ok := kinds[b[at]]; !ok {
		return api.Filter{}, 0, wrongAt{api.ErrTag, at}
	}
	m.bounds(at, 0)
	if wrong = m.filter(&f, at, t, 0); wrong.code != api.OK {
		return api.Filter{}, 0, wrong
	}
	return f, t.To, wrong
}

func modelDecode(b []byte) (api.Filter, wrongAt) {
	f, next, wrong := modelTake(b, 0, len(b))
	if wrong.code == api.OK && next < len(b) {
		return api.Filter{}, wrongAt{api.ErrMore, next}
	}
	return f, wrong
}

func checkTaken(t *testing.T, b []byte, want api.Filter) {
	t.Helper()
	if f, e, at := packet.Decode(b); e != api.OK || at != 0 || !isSame(f, want) {
		t.Errorf("Decode(%s) is %s, %v at %d; want %s", brief(b), shown(f), e, at, shown(want))
	}
}

func checkWrong(t *testing.T, b []byte, want api.Errno, where int) {
	t.Helper()
	f, e, at := packet.Decode(b)
	if e != want || at != where {
		t.Errorf("Decode(%s) is %v at %d; want %v at %d", brief(b), e, at, want, where)
	}
	if !isSame(f, api.Filter{}) {
		t.Errorf("Decode(%s) has %s beside its error", brief(b), shown(f))
	}
}

// checkDecode holds Decode against the model, and tells the error.
func checkDecode(t *testing.T, b []byte) api.Errno {
	t.Helper()
	before := bytes.Clone(b)
	want, wrong := modelDecode(b)
	if wrong.code != api.OK {
		checkWrong(t, b, wrong.code, wrong.at)
	} else {
		checkTaken(t, b, want)
		checkBack(t, b, want)
	}
	if !bytes.Equal(before, b) {
		t.Errorf("Decode(%s) wrote into its argument", brief(before))
	}
	return wrong.code
}

// checkBack: P11.4, of bytes that Decode takes as f. No item becomes longer by Encode, so that none is too long.
func checkBack(t *testing.T, b []byte, f api.Filter) {
	t.Helper()
	if wrong, _, _ := filter.Check(f); wrong != api.OK {
		t.Errorf("Decode(%s) is %s, which may not be: %v", brief(b), shown(f), wrong)
	}
	again, wrong := packet.Encode(f)
	if wrong != api.OK || len(again) > len(b) {
		t.Errorf("Encode(%s) is %s, %v", shown(f), brief(again), wrong)
		return
	}
	checkTaken(t, again, f)
}

// dice makes by chance filters that may be, and items that may not.
type dice struct{ *rand.Rand }

func diceOf(seed int64) dice { return dice{rand.New(rand.NewSource(seed))} }

func (d dice) pick(words ...string) string { return words[d.Intn(len(words))] }

func (d dice) word() string {
	return d.pick("a", "cn", "dn", "DN", "Z-9-", "dnx", "xdn", "2.5.4.3", "0.0", "10.0.200", "objectClass")
}

func (d dice) rule() string {
	for {
		if word := d.word(); !ofDn.MatchString(word) {
			return word
		}
	}
}

func (d dice) desc() string {
	desc := d.word()
	for range d.Intn(3) {
		desc += ";" + d.pick("x", "-", "9", "lang-DE", "dn")
	}
	return desc
}

func (d dice) piece() string {
	return d.pick("a", "b c", "*", "\x00", "\xff", "\x04\x01a", "\xa2\x00", "é", "\xed\xa0\x80", "0123456789", filled("x", 125), filled("\x80", 256))
}

func (d dice) value() string {
	value := ""
	for range d.Intn(4) {
		value += d.piece()
	}
	return value
}

func (d dice) item() api.Filter {
	switch kind := int8(api.FEqual + d.Intn(7)); kind {
	case api.FHave:
		return have(d.desc())
	case api.FPart:
		f := part(d.desc(), d.value(), d.value())
		for range d.Intn(4) {
			f.Middles = append(f.Middles, d.piece()+d.value())
		}
		if f.Start+f.End == "" && len(f.Middles) == 0 {
			f.Start = d.piece()
		}
		return f
	case api.FRule:
		f := api.Filter{Kind: kind, Desc: d.desc(), Value: d.value(), Dn: d.Intn(2) == 0}
		if d.Intn(2) == 0 {
			f.Rule = d.rule()
			f.Desc = d.pick(f.Desc, "")
		}
		return f
	default:
		return item(kind, d.desc(), d.value())
	}
}

func (d dice) filter(depth int) api.Filter {
	if depth == 1 || d.Intn(3) == 0 {
		return d.item()
	}
	if d.Intn(3) == 0 {
		return not(d.filter(depth - 1))
	}
	f := api.Filter{Kind: int8(d.Intn(2))}
	for range 1 + d.Intn(3) {
		f.Kids = append(f.Kids, d.filter(depth-1))
	}
	return f
}

// made is an item whose length is, at times, written in more octets than it needs.
func (d dice) made(tag byte, bodies ...[]byte) []byte {
	body := slices.Concat(bodies...)
	if d.Intn(3) > 0 {
		return made(tag, body)
	}
	octets := make([]byte, 4+d.Intn(10))
	binary.BigEndian.PutUint32(octets[len(octets)-4:], uint32(len(body)))
	return slices.Concat([]byte{tag, 0x80 + byte(len(octets))}, octets, body)
}

// maybe is a text's item; one without bytes is there, at times.
func (d dice) maybe(tag byte, s string) []byte {
	if s == "" && d.Intn(2) == 0 {
		return nil
	}
	return d.made(tag, []byte(s))
}

// loose writes a filter as freely as the form lets: long lengths, pieces, rules and descriptions without bytes, a Dn that is false.
func (d dice) loose(f api.Filter) []byte {
	var body []byte
	switch f.Kind {
	case api.FAnd, api.FOr, api.FNot:
		for _, kid := range f.Kids {
			body = append(body, d.loose(kid)...)
		}
		return d.made(0xa0+byte(f.Kind), body)
	case api.FHave:
		if d.Intn(2) == 0 {
			return d.made(0x87, []byte(f.Desc))
		}
		return d.loosePieces(f)
	case api.FPart:
		return d.loosePieces(f)
	case api.FRule:
		body = slices.Concat(d.maybe(0x81, f.Rule), d.maybe(0x82, f.Desc), d.made(0x83, []byte(f.Value)))
		if f.Dn {
			body = append(body, d.made(0x84, []byte{0xff})...)
		} else if d.Intn(2) == 0 {
			body = append(body, d.made(0x84, []byte{0x00})...)
		}
		return d.made(0xa9, body)
	}
	return d.made(0xa0+byte(f.Kind), d.made(0x04, []byte(f.Desc)), d.made(0x04, []byte(f.Value)))
}

func (d dice) loosePieces(f api.Filter) []byte {
	body := d.maybe(0x80, f.Start)
	for _, middle := range f.Middles {
		body = slices.Concat(body, d.maybe(0x81, ""), d.made(0x81, []byte(middle)))
	}
	body = slices.Concat(body, d.maybe(0x81, ""), d.maybe(0x82, f.End))
	if len(body) == 0 {
		body = raw(d.pick("80 00", "81 00", "82 00", "80 00 82 00", "81 81 00"))
	}
	return d.made(0xa4, d.made(0x04, []byte(f.Desc)), d.made(0x30, body))
}

// tags are those of the form, and some beside them: of another class, number or make.
const tags = "\xa0\xa1\xa2\xa3\xa4\xa5\xa6\x87\xa8\xa9\x04\x30\x80\x81\x82\x83\x84" + "\xa7\x88\x24\x10\x05\x20\x60\xe0\xe3\x63\x23\x47\xc7\x07\x41\xc1\x44\x70\xb0\x9e\x00\xff\x1f\x85\xaa"

// wild is an item of a tag, with a body that is nearly right.
func (d dice) wild(tag byte, depth int) []byte {
	x, ok := forms[tag]
	if tag == 0x30 {
		x, ok = formOfPieces, true
	}
	if !ok {
		return d.made(tag, []byte(d.pick("", "cn", "cn", "a;x", "a;", "\xff", "\xff", "\x00", "\x01", "\xff\xff", "dn", "x y", "1.2", "\x87\x02cn")))
	}
	row := d.strewn(d.tagsOf(x, d.pick(x.words...), depth))
	var body []byte
	for _, kid := range row {
		body = append(body, d.wild(kid, depth-1)...)
	}
	b := d.made(tag, body)
	switch d.Intn(120) {
	case 0, 1:
		b[1] += byte(d.pick("\x01", "\x02", "\xff", "\x80")[0])
	case 2:
		b[1] = byte(d.pick("\x80", "\xff")[0])
	}
	return b
}

// tagsOf finds tags for the letters of a row.
func (d dice) tagsOf(x form, row string, depth int) []byte {
	var out []byte
	for i := range len(row) {
		many := 1
		if strings.Contains(x.again, row[i:i+1]) {
			many += d.Intn(3)
		}
		for range many {
			if row[i] == 'f' && depth > 0 {
				out = append(out, tags[d.Intn(10)])
				continue
			}
			if row[i] == 'f' {
				out = append(out, 0x87)
				continue
			}
			for tag, letter := range x.tags {
				if letter == row[i] {
					out = append(out, tag)
				}
			}
		}
	}
	return out
}

// strewn makes, at times, a row a wrong one.
func (d dice) strewn(row []byte) []byte {
	at := d.Intn(len(row) + 1)
	any := tags[d.Intn(len(tags))]
	switch {
	case d.Intn(12) > 0:
		return row
	case d.Intn(3) == 0:
		return slices.Insert(row, at, any)
	case at == len(row):
		return slices.Concat(row, row)
	case d.Intn(3) == 0:
		return slices.Delete(row, at, at+1)
	case d.Intn(3) == 0:
		slices.Reverse(row[at:])
		return row
	}
	row[at] = any
	return row
}
