package gram

import "testing"

// What was dropped as often as it was put, or only asked for, leaves nothing behind.
func TestNothingIsKeptOfWhatIsGone(t *testing.T) {
	x := New()
	for id := range uint64(50) {
		x.Put(id, "abc")
		x.Put(id, "abcd")
	}
	for id := range uint64(50) {
		x.Drop(id, "abc")
		x.Drop(id, "abcd")
		x.Drop(id+1000, "xyz")
	}
	x.Find(Grams("abc"))
	x.Count(7)
	x.Put(1, "")
	if len(x.byGram) != 0 {
		t.Errorf("%d grams are kept", len(x.byGram))
	}
}
