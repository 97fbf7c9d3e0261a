package name

// What may stand next in a type's word.
const (
	atWord   = iota // a letter, or the first digit of a row
	inWord          // more of a word that began with a letter
	atRow           // the first digit of a row
	inRow           // more digits, or the dot behind them
	atNought        // the dot behind a row that is 0
)

// wordSize tells how many bytes at the beginning of s go on as a type's word, and whether they are a whole one.
func wordSize(s string) (size int, whole bool) {
	next, dotted := atWord, false
	var b byte
look:
	if size == len(s) {
		goto end
	}
	b = s[size]
	switch next {
	case atWord:
		goto word
	case inWord:
		goto more
	case atRow:
		goto row
	case inRow:
		goto digit
	case atNought:
		goto dot
	}
word:
	if isLetter(b) {
		next = inWord
		goto taken
	}
row:
	switch {
	case b == '0':
		next = atNought
		goto taken
	case isDigit(b):
		next = inRow
		goto taken
	}
	goto end
more:
	if isLetter(b) || isDigit(b) || b == '-' {
		goto taken
	}
	goto end
digit:
	if isDigit(b) {
		goto taken
	}
dot:
	if b != '.' {
		goto end
	}
	next, dotted = atRow, true
taken:
	size++
	goto look
end:
	return size, next == inWord || dotted && next != atRow
}

func isTypeWord(s string) bool {
	size, whole := wordSize(s)
	return whole && size == len(s)
}

func isLetter(b byte) bool {
	return 'a' <= b && b <= 'z' || 'A' <= b && b <= 'Z'
}

func isDigit(b byte) bool {
	return '0' <= b && b <= '9'
}
