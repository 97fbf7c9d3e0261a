package prep_test

import (
	"cmp"
	"fmt"
	"math/big"
	"strings"
	"testing"

	"roster/api"
	"roster/prep"
)

func keyOf(t *testing.T, form int8, value string) string {
	t.Helper()
	key, ok := prep.Key(form, value)
	if !ok {
		t.Fatalf("Key(%d, %s) is refused", form, brief(value))
	}
	return key
}

func TestKeysOfNumbersStandInTheirOrder(t *testing.T) {
	numbers := someNumbers()
	for n := -130; n <= 1010; n += 7 {
		if n != 0 {
			numbers = append(numbers, fmt.Sprint(n))
		}
	}
	for _, count := range []int{255, 256, 257, api.MaxText - 1} {
		digits := strings.Repeat("9", count)
		numbers = append(numbers, digits, "-"+digits, "1"+digits[1:], "-1"+digits[1:], digits[1:]+"8", "-"+digits[1:]+"8")
	}
	keys := make([]string, len(numbers))
	bigs := make([]*big.Int, len(numbers))
	for k, n := range numbers {
		keys[k], bigs[k] = keyOf(t, api.FormNumber, n), bigOf(n)
	}
	for j, a := range numbers {
		for k, b := range numbers {
			if got, want := strings.Compare(keys[j], keys[k]), bigs[j].Cmp(bigs[k]); got != want {
				t.Errorf("keys of %s and %s: %d, want %d", brief(a), brief(b), got, want)
			}
		}
	}
}

func TestKeysOfMomentsStandInTheirOrder(t *testing.T) {
	var values []string
	for _, stamp := range []string{"00000101120000", "00011231235959", "09991231235959", "10000101000000", "19691231235959", "19700101000000", "20240228235959", "20240229000000", "20240229003000", "20240229235959", "20240301000000", "20240301013000", "99991231120000"} {
		for _, rest := range []string{"", ".0", ",000000000", ".5", ",50", ".500000001", ".05", ".49", ".999999999"} {
			for _, zone := range []string{"Z", "+0000", "-0030", "+0130"} {
				values = append(values, stamp+rest+zone)
			}
		}
	}
	type moment struct {
		seconds   int64
		rest, key string
	}
	moments := make([]moment, len(values))
	for k, value := range values {
		seconds, rest, ok := prep.Time(value)
		if !ok {
			t.Fatal(value)
		}
		moments[k] = moment{seconds, rest, keyOf(t, api.FormTime, value)}
	}
	same := 0
	for j, a := range moments {
		for k, b := range moments {
			want := cmp.Or(cmp.Compare(a.seconds, b.seconds), strings.Compare((a.rest + "000000000")[:9], (b.rest + "000000000")[:9]))
			if got := strings.Compare(a.key, b.key); got != want {
				t.Errorf("keys of %s and %s: %d, want %d", values[j], values[k], got, want)
			}
			if want == 0 && j != k {
				same++
			}
		}
	}
	if same < 100 {
		t.Errorf("only %d pairs are the same moment", same)
	}
}

func TestAKeyIsItsOwnKey(t *testing.T) {
	values := append(rowsOf([]string{" ", "A", "0", "1", "-", ".", "É"}, 5), "TRUE", "FALSE", "\xff", "\xc3 A")
	values = append(values, longTexts(api.MaxText)...)
	for _, form := range []int8{api.FormFold, api.FormExact, api.FormDigits, api.FormPhone, api.FormFlag, api.FormBytes, api.FormOid} {
		taken := 0
		for _, value := range values {
			key, ok := prep.Key(form, value)
			if !ok {
				continue
			}
			taken++
			if again, ok := prep.Key(form, key); again != key || !ok {
				t.Errorf("Key(%d, %s) = %s, %v", form, brief(key), brief(again), ok)
			}
		}
		if taken < 2 {
			t.Errorf("form %d took only %d of the values", form, taken)
		}
	}
}

// cuts are the places between two characters of s, its ends too.
func cuts(s string) []int {
	var out []int
	for at := range s {
		out = append(out, at)
	}
	return append(out, len(s))
}

func TestWhatIsCutOutOfAKeyIsItsOwnPiece(t *testing.T) {
	for _, form := range []int8{api.FormFold, api.FormExact, api.FormDigits, api.FormPhone} {
		looked := 0
		for _, value := range rowsOf([]string{" ", "A", "0", "-", "+", "é"}, 5) {
			key, ok := prep.Key(form, value)
			if !ok || key == " " {
				continue
			}
			looked++
			for _, from := range cuts(key) {
				for _, to := range cuts(key) {
					if from > to {
						continue
					}
					piece := key[from:to]
					checkOwnPiece(t, form, api.AtMiddle, piece)
					if from == 0 {
						checkOwnPiece(t, form, api.AtStart, piece)
					}
					if to == len(key) {
						checkOwnPiece(t, form, api.AtEnd, piece)
					}
				}
			}
		}
		if looked < 50 {
			t.Errorf("form %d: only %d keys", form, looked)
		}
	}
}

func checkOwnPiece(t *testing.T, form, where int8, piece string) {
	t.Helper()
	if got, ok := prep.Piece(form, where, piece); got != piece || !ok {
		t.Errorf("Piece(%d, %d, %q) = %q, %v", form, where, piece, got, ok)
	}
}

func TestAddDoesNotHangOnTheOrder(t *testing.T) {
	numbers := someNumbers()
	for _, a := range numbers {
		if got, ok := prep.Add(a, "0"); got != a || !ok {
			t.Errorf("Add(%s, 0) = %s, %v", brief(a), brief(got), ok)
		}
		if got, ok := prep.Add("0", a); got != a || !ok {
			t.Errorf("Add(0, %s) = %s, %v", brief(a), brief(got), ok)
		}
		for _, b := range numbers {
			ab, okAB := prep.Add(a, b)
			ba, okBA := prep.Add(b, a)
			if ab != ba || !okAB || !okBA {
				t.Errorf("Add of %s and %s: %s, %s", brief(a), brief(b), brief(ab), brief(ba))
			}
		}
	}
}

func checkThree(t *testing.T, a, b, c string) {
	t.Helper()
	ab, okAB := prep.Add(a, b)
	bc, okBC := prep.Add(b, c)
	left, okLeft := prep.Add(ab, c)
	right, okRight := prep.Add(a, bc)
	if okAB && okBC && (left != right || okLeft != okRight) {
		t.Errorf("Add of %s, %s and %s: %s, %v and %s, %v", brief(a), brief(b), brief(c), brief(left), okLeft, brief(right), okRight)
	}
}

func TestAddOfThree(t *testing.T) {
	numbers := someNumbers()
	for j, a := range numbers {
		for k, b := range numbers {
			for _, c := range numbers[(j+k)%3:] {
				if len(a)+len(b)+len(c) < 200 {
					checkThree(t, a, b, c)
				}
			}
		}
	}
	nines := strings.Repeat("9", api.MaxText)
	checkThree(t, nines, "-1", "1")
	checkThree(t, nines, "1", "-1")
	checkThree(t, "-"+nines[1:], nines, "-"+nines[1:])
}

// What is handed out stays as it was, and nothing is left behind in the package.
func TestAnswersHangOnTheArgumentsAlone(t *testing.T) {
	type answers struct {
		keys, pieces [formCount]string
		sum, rest    string
		sound        string
		seconds      int64
	}
	ask := func(s string) answers {
		var a answers
		for form := range formCount {
			a.keys[form], _ = prep.Key(int8(form), s)
			a.pieces[form], _ = prep.Piece(int8(form), api.AtEnd, s)
		}
		a.sum, _ = prep.Add(s, "-1")
		a.seconds, a.rest, _ = prep.Time(s)
		a.sound = prep.Sound(s)
		return a
	}
	all := append(someNumbers(), "20240229235959.50+0130", "TRUE", " A  b ", "2.5.4.3", "\xff", "Robert Rupert", "+49 (0)30-1 Ab", "")
	first := make([]answers, len(all))
	for k, s := range all {
		first[k] = ask(s)
	}
	for k := len(all) - 1; k >= 0; k-- {
		if ask(all[k]) != first[k] {
			t.Errorf("%s is answered otherwise the second time", brief(all[k]))
		}
	}
}
