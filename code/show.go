package code

import (
	"strconv"
	"strings"

	"roster/api"
	"roster/filter"
	"roster/octet"
)

var fetchWords = [...]string{
	api.GetHave:  "have",
	api.GetEqual: "equal",
	api.GetFrom:  "from",
	api.GetUpTo:  "upto",
	api.GetPart:  "part",
}

func line(place int, words []string) string {
	return strconv.Itoa(place) + " " + strings.Join(words, " ") + "\n"
}

func (q fetch) words() []string {
	out := []string{fetchWords[q.Kind], strconv.Itoa(q.Type)}
	switch q.Kind {
	case api.GetEqual, api.GetFrom, api.GetUpTo:
		out = append(out, digits(q.Key))
	}
	for _, piece := range q.Pieces {
		out = append(out, digits(piece))
	}
	return out
}

func (f test) words() []string {
	_, parts, _ := filter.Check(f.Filter)
	return []string{"test", strconv.Itoa(parts)}
}

func instrWords(i api.Instr) []string {
	op := opcodes[i.Op]
	if !op.names {
		return []string{op.word}
	}
	return []string{op.word, strconv.Itoa(i.Arg)}
}

func digits(s string) string {
	if s == "" {
		return "-"
	}
	return octet.Hex(s)
}
