package schema

import (
	"slices"
	"strings"

	"roster/api"
)

const allBits = api.IxHave | api.IxEqual | api.IxOrder | api.IxPart

// Print: P5.2.
func Print(s api.Schema) (string, api.Errno) {
	if len(s.Types) > api.MaxTypes || len(s.Classes) > api.MaxTypes {
		return "", api.ErrLong
	}
	if !all(s.Types, isPrintable) || !all(s.Classes, isPrintableClass) {
		return "", api.ErrSyntax
	}
	var p printer
	for _, t := range s.Types {
		p.typeLine(t)
	}
	for _, c := range s.Classes {
		p.classLine(c)
	}
	if p.long {
		return "", api.ErrLong
	}
	return string(p.text), api.OK
}

func all[T any](list []T, fits func(T) bool) bool {
	for _, x := range list {
		if !fits(x) {
			return false
		}
	}
	return true
}

func isPrintable(t api.Type) bool {
	return isPrintableHead(t.Oid, t.Names) && (t.Sup == "" || isWordOrOid(t.Sup)) && isSyntax(t.Syntax) &&
		isRule(t.Equal) && isRule(t.Order) && isRule(t.Part) && t.Index <= allBits
}

func isPrintableClass(c api.Class) bool {
	return isPrintableHead(c.Oid, c.Names) && isClassKind(c.Kind) &&
		all(c.Sups, isWordOrOid) && all(c.Must, isWordOrOid) && all(c.May, isWordOrOid)
}

func isPrintableHead(oid string, names []string) bool {
	return isOid(oid) && len(names) > 0 && !slices.ContainsFunc(names, func(name string) bool {
		return strings.ContainsAny(name, "'\n")
	})
}

func isClassKind(kind int8) bool {
	return 0 <= kind && int(kind) < len(kindWords)
}

// printer holds lines, and whether they would be too long: then it takes no more, so that no great text is built in vain.
type printer struct {
	text []byte
	long bool
}

// add puts words behind what is there, a blank behind each.
func (p *printer) add(words ...string) {
	for _, word := range words {
		p.long = p.long || len(p.text)+len(word)+1 > api.MaxBytes
		if p.long {
			return
		}
		p.text = append(append(p.text, word...), ' ')
	}
}

// endLine makes a line feed of the last word's blank.
func (p *printer) endLine() {
	if !p.long {
		p.text[len(p.text)-1] = '\n'
	}
}

func (p *printer) typeLine(t api.Type) {
	p.head(typeLine, t.Oid, t.Names)
	if t.Sup != "" {
		p.add("SUP", t.Sup)
	}
	for kind, number := range rulesOf(t) {
		if number != api.RuleNone {
			p.add(ruleWords[kind], RuleName(number))
		}
	}
	p.add("SYNTAX", syntaxArc+syntaxes[t.Syntax])
	if t.Single {
		p.add("SINGLE-VALUE")
	}
	if t.Index != 0 {
		p.add("X-INDEX")
		p.names(wordsOf(t.Index))
	}
	p.add(")")
	p.endLine()
}

func (p *printer) classLine(c api.Class) {
	p.head(classLine, c.Oid, c.Names)
	p.list("SUP", c.Sups)
	p.add(kindWords[c.Kind])
	p.list("MUST", c.Must)
	p.list("MAY", c.May)
	p.add(")")
	p.endLine()
}

func (p *printer) head(first, oid string, names []string) {
	p.add(first, "(", oid, "NAME")
	p.names(names)
}

func (p *printer) names(names []string) {
	if len(names) > 1 {
		p.add("(")
	}
	for _, name := range names {
		p.add(quoted(name))
	}
	if len(names) > 1 {
		p.add(")")
	}
}

func (p *printer) list(key string, words []string) {
	switch len(words) {
	case 0:
	case 1:
		p.add(key, words[0])
	default:
		p.add(key, "(", words[0])
		for _, word := range words[1:] {
			p.add("$", word)
		}
		p.add(")")
	}
}

func wordsOf(index uint8) []string {
	var words []string
	for bit, word := range indexWords {
		if index>>bit&1 != 0 {
			words = append(words, word)
		}
	}
	return words
}
