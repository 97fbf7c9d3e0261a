package schema

import (
	"strings"

	"roster/api"
)

const (
	typeLine  = "attributetype"
	classLine = "objectclass"
	quote     = "'"
	signs     = "()$"
	blanks    = " \t"
)

// Each word stands at the number of what it says: a kind of rules, a bit of Index, a kind of classes.
var (
	ruleWords  = [...]string{kindEqual: "EQUALITY", kindOrder: "ORDERING", kindPart: "SUBSTR"}
	indexWords = [...]string{"have", "equal", "order", "part"}
	kindWords  = [...]string{api.ClAbstract: "ABSTRACT", api.ClStructural: "STRUCTURAL", api.ClAuxiliary: "AUXILIARY"}
)

// Parse: P5.1.
func Parse(text string) (s api.Schema, err error) {
	if len(text) > api.MaxBytes {
		return api.Schema{}, &api.Fault{Code: api.ErrLong}
	}
	defer func() {
		if fault, ok := recover().(*api.Fault); ok {
			s, err = api.Schema{}, fault
		}
	}()
	r := reader{text: text}
	for r.nextLine() {
		r.line(&s)
	}
	if _, e := Print(s); e != api.OK {
		return api.Schema{}, &api.Fault{Code: api.ErrLong}
	}
	return s, nil
}

// reader goes through a text line by line, in each word by word. It stands at a word, or at the line's end, where the word is empty.
type reader struct {
	text   string
	word   string
	at     int // where the word begins
	end    int // the line's end
	behind int // where the next line begins
}

// giveUp ends the whole reading: Parse catches the fault.
func (r *reader) giveUp(code api.Errno) {
	panic(&api.Fault{Code: code, At: r.at, Word: r.word})
}

func (r *reader) nextLine() bool {
	if r.behind > len(r.text) {
		return false
	}
	r.at, r.word = r.behind, ""
	r.end = len(r.text)
	if length := strings.IndexByte(r.text[r.at:], '\n'); length >= 0 {
		r.end = r.at + length
	}
	r.behind = r.end + 1
	r.next()
	return true
}

// next goes on to what stands behind the word.
func (r *reader) next() {
	rest := strings.TrimLeft(r.text[r.at+len(r.word):r.end], blanks)
	r.at, r.word = r.end-len(rest), first(rest)
}

// first is the word, text or sign with which s begins; a quote that is not closed is one by itself.
func first(s string) string {
	end := strings.IndexAny(s, quote+signs+blanks)
	switch {
	case end < 0:
		return s
	case end > 0:
		return s[:end]
	case s[:1] == quote && strings.Contains(s[1:], quote):
		return s[:1+strings.Index(s[1:], quote)+1]
	}
	return s[:1]
}

func (r *reader) line(s *api.Schema) {
	switch {
	case r.word == "", r.word[0] == '#':
		return
	case r.word == typeLine:
		r.room(len(s.Types))
		s.Types = append(s.Types, r.typeBody())
	case r.word == classLine:
		r.room(len(s.Classes))
		s.Classes = append(s.Classes, r.classBody())
	default:
		r.giveUp(api.ErrWord)
	}
	if r.word != "" {
		r.giveUp(api.ErrSyntax)
	}
}

func (r *reader) room(count int) {
	if count >= api.MaxTypes {
		r.giveUp(api.ErrLong)
	}
	r.next()
}

func (r *reader) typeBody() api.Type {
	var t api.Type
	t.Oid, t.Names = r.head()
	if r.skip("SUP") {
		t.Sup = r.take(isWordOrOid)
	}
	t.Equal = r.rule(kindEqual)
	t.Order = r.rule(kindOrder)
	t.Part = r.rule(kindPart)
	r.must("SYNTAX")
	t.Syntax = r.syntax()
	t.Single = r.skip("SINGLE-VALUE")
	if r.skip("X-INDEX") {
		t.Index = r.index()
	}
	r.must(")")
	return t
}

func (r *reader) classBody() api.Class {
	c := api.Class{Kind: api.ClStructural}
	c.Oid, c.Names = r.head()
	if r.skip("SUP") {
		c.Sups = r.list()
	}
	for kind, word := range kindWords {
		if r.skip(word) {
			c.Kind = int8(kind)
			break
		}
	}
	if r.skip("MUST") {
		c.Must = r.list()
	}
	if r.skip("MAY") {
		c.May = r.list()
	}
	r.must(")")
	return c
}

func (r *reader) head() (oid string, names []string) {
	r.must("(")
	oid = r.take(isOid)
	r.must("NAME")
	r.some(func() {
		text := r.take(isQuoted)
		names = append(names, text[1:len(text)-1])
	})
	return oid, names
}

func (r *reader) skip(word string) bool {
	if r.word != word {
		return false
	}
	r.next()
	return true
}

func (r *reader) must(word string) {
	if !r.skip(word) {
		r.giveUp(api.ErrSyntax)
	}
}

func (r *reader) take(fits func(string) bool) string {
	word := r.word
	if !fits(word) {
		r.giveUp(api.ErrSyntax)
	}
	r.next()
	return word
}

// some takes one, or one or more in ( ).
func (r *reader) some(one func()) {
	open := r.skip("(")
	one()
	for open && !r.skip(")") {
		one()
	}
}

func (r *reader) list() []string {
	var words []string
	r.some(func() {
		if len(words) > 0 {
			r.must("$")
		}
		words = append(words, r.take(isWordOrOid))
	})
	return words
}

// rule is RuleNone where the word that begins one of that kind is missing.
func (r *reader) rule(kind int) int8 {
	if !r.skip(ruleWords[kind]) {
		return api.RuleNone
	}
	number := Rule(r.word)
	if number == api.RuleNone && isWordOrOid(r.word) {
		r.giveUp(api.ErrWord)
	}
	r.take(isWordOrOid)
	return number
}

func (r *reader) syntax() int8 {
	number, ok := syntaxOf(r.word)
	if !ok && isWordOrOid(r.word) {
		r.giveUp(api.ErrWord)
	}
	r.take(isOid)
	return number
}

func (r *reader) index() uint8 {
	var bits uint8
	r.some(func() {
		bit := indexBit(r.word)
		if bit == 0 && isQuoted(r.word) {
			r.giveUp(api.ErrWord)
		}
		if bits&bit != 0 {
			r.giveUp(api.ErrTwice)
		}
		r.take(isQuoted)
		bits |= bit
	})
	return bits
}

func indexBit(text string) uint8 {
	for bit, word := range indexWords {
		if text == quoted(word) {
			return 1 << bit
		}
	}
	return 0
}
