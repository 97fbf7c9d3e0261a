package text

import (
	"unicode/utf8"

	"roster/api"
	"roster/octet"
)

func (r *reader) item() (f api.Filter, err error) {
	if !r.isNext(':') {
		f.Desc, err = r.desc()
	}
	switch {
	case err != nil:
		return f, err
	case r.take('='):
		err = r.equalOrPieces(&f)
	case r.take('~'):
		err = r.against(&f, api.FLike)
	case r.take('>'):
		err = r.against(&f, api.FMore)
	case r.take('<'):
		err = r.against(&f, api.FLess)
	default:
		err = r.ruled(&f)
	}
	return f, err
}

// against reads the = that belongs to a sign, and the value behind it.
func (r *reader) against(f *api.Filter, kind int8) (err error) {
	if err = r.must('='); err != nil {
		return err
	}
	f.Kind = kind
	f.Value, err = r.value(false)
	return err
}

// equalOrPieces reads what stands behind a = alone: a value, or, where a * stands behind it, pieces.
func (r *reader) equalOrPieces(f *api.Filter) error {
	first, err := r.value(true)
	if err != nil {
		return err
	}
	if !r.isNext('*') {
		f.Kind, f.Value = api.FEqual, first
		return nil
	}
	f.Kind, f.Start = api.FPart, first
	for r.take('*') {
		if f.End != "" { // the last one till now was no end
			f.Middles = append(f.Middles, f.End)
		}
		if f.End, err = r.value(true); err != nil {
			return err
		}
	}
	if f.Start == "" && len(f.Middles) == 0 && f.End == "" {
		f.Kind = api.FHave
	}
	return nil
}

// ruled reads what stands behind the description of an extensible item, or where there is none: words, each with a : ahead, and the value behind :=.
func (r *reader) ruled(f *api.Filter) (err error) {
	f.Kind = api.FRule
words:
	for r.take(':') {
		switch {
		case (f.Desc != "" || f.Rule != "") && r.take('='):
			f.Value, err = r.value(false)
			return err
		case f.Rule != "":
			break words
		}
		if err = r.dnOrRule(f); err != nil {
			return err
		}
	}
	return r.cannotStand()
}

func (r *reader) dnOrRule(f *api.Filter) error {
	from := r.at
	word, err := r.rule()
	switch {
	case err != nil:
		return err
	case !isDn(word):
		f.Rule = word
	case f.Dn:
		return fault(api.ErrSyntax, from)
	default:
		f.Dn = true
	}
	return nil
}

// value reads as far as octet.Unescape takes it, up to a ), and in pieces up to a *.
func (r *reader) value(inPieces bool) (string, error) {
	from := r.at
	size, wrong := extent(r.text[from:], inPieces)
	r.at += size
	if wrong != api.OK {
		return "", fault(wrong, r.at)
	}
	value, _ := octet.Unescape(r.text[from:r.at])
	if len(value) > api.MaxText {
		return "", fault(api.ErrLong, from)
	}
	return value, nil
}

// extent tells how many bytes at the beginning of s a value has, and what octet.Unescape says of what stands behind them, where that ends no value.
func extent(s string, inPieces bool) (size int, wrong api.Errno) {
	size = len(s)
characters:
	for at, c := range s {
		switch {
		case c == ')' || c == '*' && inPieces:
			size = at
			break characters
		case c == 0 || c == '(' || c == '*' || c == '\\' || c == utf8.RuneError:
			// Three bytes are enough: an escape, and the character that is RuneError itself, have no more. All other characters are taken, an escape's digits too.
			if _, wrong = octet.Unescape(s[at:min(at+3, len(s))]); wrong != api.OK {
				size = at
				break characters
			}
		}
	}
	return size, wrong
}
