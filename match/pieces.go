package match

import (
	"strings"

	"roster/api"
	"roster/prep"
)

// pieces are what a key must have, as the form of a rule makes them.
type pieces struct {
	start, end string
	middles    []string
}

// piecesOf makes a start or an end that is not there the empty text, like any other empty piece: each form for pieces does so.
func piecesOf(form int8, start string, middles []string, end string) (pieces, bool) {
	p := pieces{}
	var can, canEnd bool
	p.start, can = prep.Piece(form, api.AtStart, start)
	p.end, canEnd = prep.Piece(form, api.AtEnd, end)
	if !can || !canEnd {
		return pieces{}, false
	}
	for _, m := range middles {
		middle, can := prep.Piece(form, api.AtMiddle, m)
		if !can {
			return pieces{}, false
		}
		p.middles = append(p.middles, middle)
	}
	return p, true
}

func (p pieces) question(key keyer) question {
	return func(value string) api.Truth {
		got, has := key(value)
		return truth(has && p.standIn(got))
	}
}

// standIn takes each middle at the first place where it stands: that leaves the most room for those behind it.
func (p pieces) standIn(key string) bool {
	rest, begins := strings.CutPrefix(key, p.start)
	rest, ends := strings.CutSuffix(rest, p.end)
	if !begins || !ends {
		return false
	}
	for _, middle := range p.middles {
		var stands bool
		_, rest, stands = strings.Cut(rest, middle)
		if !stands {
			return false
		}
	}
	return true
}
