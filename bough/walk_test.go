package bough_test

import (
	"bytes"
	"cmp"
	"iter"
	"slices"
	"sync"
	"testing"

	"roster/bough"
)

// hundreds is a bough by tens with the keys 105, 115 and so on to 195.
func hundreds(t *testing.T) *both[int, int] {
	b := bothOf[int, int](t, byTens)
	for n := range 10 {
		k := 105 + 10*(n*7%10)
		b.put(k, -k)
	}
	return b
}

func row(keys ...int) (all []pair[int, int]) {
	for _, k := range keys {
		all = append(all, pair[int, int]{k, -k})
	}
	return all
}

// From and UpTo of keys that are there, equal to one, between, below all and above all; UpTo falls, with the equal one in it.
func TestFromAndUpTo(t *testing.T) {
	b := hundreds(t)
	b.del(130)
	b.del(170)
	all := row(105, 115, 125, 145, 155, 165, 185, 195)
	checkPairs(t, "All", b.it.All(), all)
	for k, want := range map[int]struct{ less, up int }{
		-1000: {0, 0}, 0: {0, 0}, 99: {0, 0}, 100: {0, 1}, 105: {0, 1}, 109: {0, 1}, 110: {1, 2}, 125: {2, 3},
		130: {3, 3}, 135: {3, 3}, 139: {3, 3}, 140: {3, 4}, 145: {3, 4}, 149: {3, 4}, 170: {6, 6}, 179: {6, 6}, 180: {6, 7}, 190: {7, 8}, 195: {7, 8}, 199: {7, 8}, 200: {8, 8}, 100000: {8, 8},
	} {
		checkPairs(t, "From", b.it.From(k), all[want.less:])
		falling := slices.Clone(all[:want.up])
		slices.Reverse(falling)
		checkPairs(t, "UpTo", b.it.UpTo(k), falling)
		b.checkKey(k)
	}
	empty := bothOf[int, int](t, byTens)
	for _, k := range []int{-5, 0, 5} {
		empty.checkKey(k)
	}
}

// checkGone goes over seq whole, left early at each place, whole again, and within itself.
func checkGone(t *testing.T, seq iter.Seq2[int, int], want []pair[int, int]) {
	t.Helper()
	if seq == nil {
		t.Fatal("it is nil")
	}
	checkPairs(t, "whole", seq, want)
	for most := range len(want) + 2 {
		if got := told(seq, most); !slices.Equal(got, want[:min(most, len(want))]) {
			t.Fatalf("the first %d: %s; want %s", most, brief(got), brief(want))
		}
	}
	checkPairs(t, "whole again", seq, want)
	var outer, inner []pair[int, int]
	for k, v := range seq {
		outer = append(outer, pair[int, int]{k, v})
		for k, v := range seq {
			inner = append(inner, pair[int, int]{k, v})
		}
	}
	if !slices.Equal(outer, want) || !slices.Equal(inner, slices.Repeat(want, len(want))) {
		t.Fatalf("one within another: %s, %s; want %s", brief(outer), brief(inner), brief(want))
	}
	checkPulled(t, seq, want)
}

// checkPulled goes over seq pair by pair, twice, the two in turns.
func checkPulled(t *testing.T, seq iter.Seq2[int, int], want []pair[int, int]) {
	t.Helper()
	next, stop := iter.Pull2(seq)
	defer stop()
	other, stopOther := iter.Pull2(seq)
	defer stopOther()
	for at := range len(want) + 1 {
		k, v, ok := next()
		k2, v2, ok2 := other()
		if k != k2 || v != v2 || ok != ok2 || ok != (at < len(want)) || ok && want[at] != (pair[int, int]{k, v}) {
			t.Fatalf("pair %d: %d %d %v, %d %d %v", at, k, v, ok, k2, v2, ok2)
		}
	}
}

func TestGoneOver(t *testing.T) {
	for n := range 24 {
		for way, keys := range ways(n) {
			b := bothOf[int, int](t, cmp.Compare[int])
			for _, k := range keys {
				b.put(2*k, -2*k)
			}
			checkGone(t, b.it.All(), b.row.row)
			for k := -1; k < 2*n+1; k++ {
				checkGone(t, b.it.From(k), b.row.from(k))
				checkGone(t, b.it.UpTo(k), b.row.upTo(k))
			}
			if t.Failed() {
				t.Fatal(way)
			}
		}
	}
}

// kept is what is to be ranged over, and what was there when it was called.
type kept struct {
	seq  iter.Seq2[int, int]
	want []pair[int, int]
}

// keep calls all that can be ranged over.
func keep(b *both[int, int], asks ...int) []kept {
	all := []kept{{b.it.All(), slices.Clone(b.row.row)}}
	for _, k := range asks {
		all = append(all, kept{b.it.From(k), slices.Clone(b.row.from(k))}, kept{b.it.UpTo(k), slices.Clone(b.row.upTo(k))})
	}
	return all
}

// What is gone over is what was there at the call, whatever is done ahead of the going.
func TestThoseOfTheCall(t *testing.T) {
	asks := []int{50, 100, 137, 155, 199, 300}
	changes := map[string]func(b *both[int, int]){
		"nothing":          func(b *both[int, int]) {},
		"one more":         func(b *both[int, int]) { b.put(77, 7) },
		"one less":         func(b *both[int, int]) { b.del(155) },
		"another value":    func(b *both[int, int]) { b.put(155, 7) },
		"an equal key":     func(b *both[int, int]) { b.put(151, 7) },
		"one away and put": func(b *both[int, int]) { b.del(155); b.put(155, 8) },
		"all away": func(b *both[int, int]) {
			for _, one := range slices.Clone(b.row.row) {
				b.del(one.key)
			}
		},
		"all others": func(b *both[int, int]) {
			for k := 100; k < 200; k += 10 {
				b.put(k, k)
			}
		},
		"many more": func(b *both[int, int]) {
			for k := range 3000 {
				b.put(k, k)
			}
		},
	}
	for what, change := range changes {
		b := hundreds(t)
		before := keep(b, asks...)
		change(b)
		after := keep(b, asks...)
		for _, one := range before {
			checkPairs(t, what, one.seq, one.want)
		}
		b.checkAll()
		change(b)
		for _, one := range append(before, after...) {
			checkPairs(t, what+" twice", one.seq, one.want)
		}
	}
}

// Put and Del called from within the going over: it goes on over what was there at the call.
func TestChangedWithin(t *testing.T) {
	within := map[string]func(b *both[int, int], k int){
		"the pair is taken out":      func(b *both[int, int], k int) { b.del(k) },
		"its value is another":       func(b *both[int, int], k int) { b.put(k, 7) },
		"its key is another":         func(b *both[int, int], k int) { b.put(k-k%10, 7) },
		"those around are taken out": func(b *both[int, int], k int) { b.del(k - 10); b.del(k + 10) },
		"one is put ahead":           func(b *both[int, int], k int) { b.put(k-100, 1) },
		"one is put behind":          func(b *both[int, int], k int) { b.put(k+100, 1) },
		"many are put": func(b *both[int, int], k int) {
			for n := range 50 {
				b.put(k-25+n, n)
			}
		},
		"all are taken out": func(b *both[int, int], k int) {
			for _, one := range slices.Clone(b.row.row) {
				b.del(one.key)
			}
		},
	}
	calls := map[string]func(b *both[int, int]) kept{
		"All":  func(b *both[int, int]) kept { return keep(b)[0] },
		"From": func(b *both[int, int]) kept { return keep(b, 130)[1] },
		"UpTo": func(b *both[int, int]) kept { return keep(b, 170)[2] },
	}
	for what, change := range within {
		for call, of := range calls {
			b := hundreds(t)
			one := of(b)
			var got []pair[int, int]
			for k, v := range one.seq {
				got = append(got, pair[int, int]{k, v})
				change(b, k)
				b.checkAll()
			}
			if len(got) < 7 || !slices.Equal(got, one.want) {
				t.Errorf("%s, %s: %s; want %s", call, what, brief(got), brief(one.want))
			}
			checkPairs(t, call+" again", one.seq, one.want)
			b.checkAll()
		}
	}
}

// What is called while one goes over another has what is there by then, and both keep to it.
func TestCalledWithin(t *testing.T) {
	b := hundreds(t)
	var all []kept
	for k := range b.it.All() {
		all = append(all, keep(b, k)...)
		b.del(k)
		all = append(all, keep(b, k)...)
		b.put(k+1000, k)
	}
	for _, one := range all {
		checkGone(t, one.seq, one.want)
	}
	b.checkAll()
}

// Left early, the bough can be changed at once, and what was left be gone over anew.
func TestLeftAndChanged(t *testing.T) {
	b := hundreds(t)
	all := b.it.All()
	want := slices.Clone(b.row.row)
	for k := range all {
		if k > 140 {
			b.del(k)
			break
		}
	}
	b.checkAll()
	checkPairs(t, "All", all, want)
	// A key and nothing else, and neither.
	n := 0
	for range all {
		n++
	}
	for range b.it.From(150) {
		n++
	}
	if n != 10+5 {
		t.Errorf("%d pairs", n)
	}
}

// What a caller writes over the key that was handed to From or UpTo does not show (R3).
func TestTheAskedKeyIsNotKept(t *testing.T) {
	b := bough.New[[]byte, int](bytes.Compare)
	for n, k := range []string{"a", "b", "c", "d", "e"} {
		b.Put([]byte(k), n)
	}
	k := []byte("c")
	from, upTo := b.From(k), b.UpTo(k)
	values := func(seq iter.Seq2[[]byte, int]) (all []int) {
		for _, v := range seq {
			all = append(all, v)
		}
		return all
	}
	for _, c := range []byte{'a', 'e', 'z', 0} {
		k[0] = c
		if got := values(from); !slices.Equal(got, []int{2, 3, 4}) {
			t.Errorf("From: %v", got)
		}
		if got := values(upTo); !slices.Equal(got, []int{2, 1, 0}) {
			t.Errorf("UpTo: %v", got)
		}
	}
}

// Many goroutines go over one thing while the bough is changed: each sees what was there at the call.
func TestGoneOverByMany(t *testing.T) {
	b := hundreds(t)
	var wait sync.WaitGroup
	for round := range 20 {
		for _, one := range keep(b, 125, 160) {
			for range 3 {
				wait.Go(func() {
					if got := told(one.seq, -1); !slices.Equal(got, one.want) {
						t.Errorf("%s; want %s", brief(got), brief(one.want))
					}
				})
			}
		}
		b.del(105 + 10*(round%10))
		b.put(1000+round, round)
	}
	wait.Wait()
}
