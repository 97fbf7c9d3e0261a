package prep

// codeWidth is how long a code is: a letter and three digits.
const codeWidth = 4

// soundDigits has at the place of each letter, from a on, the digit that it gives.
const (
	soundDigits = "-123-12*-22455-12623-1*2-2"
	noDigit     = '-'
	unheard     = '*' // no digit either, and the letters around it count as neighbours
)

// Sound: P3.5.
func Sound(s string) string {
	var codes, row []byte
	for _, r := range s {
		if isLetter(r) {
			row = append(row, byte(smallLetter(r)))
			continue
		}
		codes = appendCode(codes, row)
		row = row[:0]
	}
	return string(appendCode(codes, row))
}

// appendCode lays the code of a row of small letters behind those that are there.
func appendCode(codes, row []byte) []byte {
	if len(row) == 0 {
		return codes
	}
	if len(codes) > 0 {
		codes = append(codes, ' ')
	}
	code := codeOf(row)
	return append(codes, code[:]...)
}

func codeOf(row []byte) [codeWidth]byte {
	code := [codeWidth]byte{row[0] - 'a' + 'A', '0', '0', '0'}
	filled := 1
	last := soundOf(row[0])
	for _, letter := range row[1:] {
		sound := soundOf(letter)
		if sound == unheard {
			continue
		}
		if sound != noDigit && sound != last && filled < codeWidth {
			code[filled] = sound
			filled++
		}
		last = sound
	}
	return code
}

func soundOf(letter byte) byte {
	return soundDigits[letter-'a']
}
