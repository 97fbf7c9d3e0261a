package text

import "roster/api"

// reader goes through a filter's text; at is the place of the first byte that is not read yet.
type reader struct {
	text  string
	at    int
	parts int // Nots not counted
}

// fault is without a word: Parse, which has the text, lays it in.
func fault(code api.Errno, at int) error {
	return &api.Fault{Code: code, At: at}
}

// cannotStand is the fault of what comes next, where it is nothing that may.
func (r *reader) cannotStand() error {
	if r.at == len(r.text) {
		return fault(api.ErrShort, r.at)
	}
	return fault(api.ErrSyntax, r.at)
}

func (r *reader) isNext(b byte) bool {
	return r.at < len(r.text) && r.text[r.at] == b
}

// take goes behind b, if it comes next.
func (r *reader) take(b byte) bool {
	if !r.isNext(b) {
		return false
	}
	r.at++
	return true
}

func (r *reader) must(b byte) error {
	if !r.take(b) {
		return r.cannotStand()
	}
	return nil
}

// takeAll goes behind all bytes of a kind that come next, and tells whether there are some.
func (r *reader) takeAll(isOfKind func(byte) bool) bool {
	from := r.at
	for r.at < len(r.text) && isOfKind(r.text[r.at]) {
		r.at++
	}
	return r.at > from
}

// since is what was read from a place on, where that is not too long.
func (r *reader) since(from int) (string, error) {
	if r.at-from > api.MaxText {
		return "", fault(api.ErrLong, from)
	}
	return r.text[from:r.at], nil
}

// whole reads a filter behind which nothing stands.
func (r *reader) whole() (api.Filter, error) {
	f, err := r.filter(1)
	if err == nil && r.at < len(r.text) {
		err = r.cannotStand()
	}
	return f, err
}

// filter reads one whose depth from above is that.
func (r *reader) filter(depth int) (api.Filter, error) {
	if err := r.open(depth); err != nil {
		return api.Filter{}, err
	}
	f, err := r.body(depth)
	if err == nil {
		err = r.must(')')
	}
	return f, err
}

// open reads the ( that begins a part, if there is room for the part.
func (r *reader) open(depth int) error {
	from := r.at
	if err := r.must('('); err != nil {
		return err
	}
	if depth > api.MaxDepth {
		return fault(api.ErrDeep, from)
	}
	if !r.isNext('!') {
		r.parts++
	}
	if r.parts > api.MaxNodes {
		return fault(api.ErrLong, from)
	}
	return nil
}

// body reads what stands between ( and ).
func (r *reader) body(depth int) (f api.Filter, err error) {
	switch {
	case r.take('&'):
		f.Kind = api.FAnd
		f.Kids, err = r.kids(depth + 1)
	case r.take('|'):
		f.Kind = api.FOr
		f.Kids, err = r.kids(depth + 1)
	case r.take('!'):
		f.Kind = api.FNot
		f.Kids, err = r.kid(depth + 1)
	default:
		f, err = r.item()
	}
	return f, err
}

func (r *reader) kids(depth int) ([]api.Filter, error) {
	kids, err := r.kid(depth)
	for err == nil && r.isNext('(') {
		var kid api.Filter
		kid, err = r.filter(depth)
		kids = append(kids, kid)
	}
	return kids, err
}

func (r *reader) kid(depth int) ([]api.Filter, error) {
	kid, err := r.filter(depth)
	return []api.Filter{kid}, err
}
