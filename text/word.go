package text

// desc reads a description.
func (r *reader) desc() (string, error) {
	from := r.at
	err := r.word()
	for err == nil && r.take(';') {
		if !r.takeAll(isOfWord) {
			err = r.cannotStand()
		}
	}
	if err != nil {
		return "", err
	}
	return r.since(from)
}

// rule reads a rule's word, or the word dn.
func (r *reader) rule() (string, error) {
	from := r.at
	if err := r.word(); err != nil {
		return "", err
	}
	return r.since(from)
}

func (r *reader) word() error {
	if r.at < len(r.text) && isLetter(r.text[r.at]) {
		r.takeAll(isOfWord)
		return nil
	}
	return r.numbers()
}

// numbers reads two or more, with a dot between each two.
func (r *reader) numbers() error {
	right := r.number() && r.take('.') && r.number()
	for right && r.take('.') {
		right = r.number()
	}
	if !right {
		return r.cannotStand()
	}
	return nil
}

// number: behind a nought at its beginning stands no digit of it.
func (r *reader) number() bool {
	return r.take('0') || r.takeAll(isDigit)
}

// isDn: the four spellings stand here one by one, since strings.EqualFold would lean on the library's tables of all letters, greater than a table may be.
func isDn(word string) bool {
	switch word {
	case "dn", "dN", "Dn", "DN":
		return true
	}
	return false
}

func isOfWord(b byte) bool {
	return isLetter(b) || isDigit(b) || b == '-'
}

func isLetter(b byte) bool {
	return 'a' <= b && b <= 'z' || 'A' <= b && b <= 'Z'
}

func isDigit(b byte) bool {
	return '0' <= b && b <= '9'
}
