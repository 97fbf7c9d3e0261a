package index_test

import (
	"slices"
	"testing"

	"roster/api"
	"roster/idlist"
	"roster/index"
	"roster/match"
	"roster/prep"
	"roster/schema"
)

// alike holds two indexes against one another in what they say of fetches.
func alike(t *testing.T, x, y *index.Index, fetches []api.Fetch) {
	t.Helper()
	for _, q := range fetches {
		one, e := x.Fetch(q)
		two, f := y.Fetch(q)
		if e != f || !slices.Equal(one, two) || x.Can(q) != y.Can(q) || x.Count(q) != y.Count(q) {
			t.Fatalf("Fetch(%s) is %v, %v and %v, %v; Count %d and %d", shown(q), one, e, two, f, x.Count(q), y.Count(q))
		}
	}
}

// P14.6: behind any Puts and Drops an index is as one made anew of the entries that stand there, in whatever order they come.
func TestAsIfMadeAnew(t *testing.T) {
	s := testSchema(t)
	for seed := range int64(30) {
		d := diceOf(s, seed)
		b := bothOf(t, s)
		for range 40 {
			id := uint64(d.Intn(15))
			if d.Intn(3) > 0 {
				b.putEntry(id, d.entry())
			} else {
				b.drop(id)
			}
		}
		var ids []uint64
		for id := range b.plain {
			ids = append(ids, id)
		}
		every := d.every(s)
		for range 3 {
			anew := index.New(s)
			for _, at := range d.Perm(len(ids)) {
				anew.Put(ids[at], b.plain[ids[at]])
			}
			alike(t, b.it, anew, every)
			// And they stay alike under what comes later.
			for _, id := range ids[:len(ids)/2] {
				e := d.entry()
				b.putEntry(id, e)
				anew.Put(id, e)
			}
			alike(t, b.it, anew, every)
		}
		for _, id := range ids {
			b.drop(id)
		}
		alike(t, b.it, index.New(s), every)
	}
}

// P14.6: what stood there ahead shows nowhere, were it the same entry under another number or another entry under the same one.
func TestWhatStoodThereAhead(t *testing.T) {
	s := testSchema(t)
	d := diceOf(s, 77)
	every := d.every(s)
	for range 40 {
		first, second := d.entry(), d.entry()
		x, y := index.New(s), index.New(s)
		x.Put(1, first)
		x.Put(2, first)
		x.Put(1, second)
		x.Drop(2)
		x.Put(2, second)
		x.Drop(1)
		y.Put(2, second)
		alike(t, x, y, every)
	}
}

// asked is what a filter for pieces would ask, each piece as prep.Piece makes it; false, if one can't be.
func asked(s *schema.Schema, place int, start string, middles []string, end string) (api.Fetch, bool) {
	form, _ := schema.Form(s.Full(place).Part)
	q := api.Fetch{Kind: api.GetPart, Type: place}
	for at, piece := range slices.Concat([]string{start}, middles, []string{end}) {
		where := int8(api.AtMiddle)
		switch at {
		case 0:
			where = api.AtStart
		case len(middles) + 1:
			where = api.AtEnd
		}
		made, can := prep.Piece(form, where, piece)
		if !can {
			return api.Fetch{}, false
		}
		q.Pieces = append(q.Pieces, made)
	}
	return q, true
}

// P14.7: GetPart tells all numbers whose entry has a covered value with the pieces.
func TestNoNumberIsMissed(t *testing.T) {
	s := testSchema(t)
	yes, more := 0, 0
	for seed := range int64(20) {
		d := diceOf(s, seed)
		b := bothOf(t, s)
		for id := range uint64(60) {
			b.putEntry(id, d.entry())
		}
		for range 800 {
			place := oneOf(d, []int{tName, tCn, tSn, tPhone, tDigits, tMixed})
			start, end, middles := oneOf(d, somePieces), oneOf(d, somePieces), []string(nil)
			for range d.Intn(3) {
				middles = append(middles, oneOf(d, somePieces))
			}
			q, can := asked(s, place, start, middles, end)
			if !can || !b.it.Can(q) {
				continue
			}
			told, _ := b.it.Fetch(q)
			for id, e := range b.plain {
				has := slices.ContainsFunc(coveredBy(s, e, place), func(value string) bool {
					return match.Part(s, s.Full(place).Part, value, start, middles, end) == api.Yes
				})
				switch is := slices.Contains(told, id); {
				case has && !is:
					t.Fatalf("Fetch(%s) misses %d: %q", shown(q), id, e)
				case has:
					yes++
				case is:
					more++
				}
			}
		}
	}
	if yes < 1000 || more == 0 {
		t.Errorf("%d had the pieces, %d were told beside them", yes, more)
	}
}

// P14.7: the other kinds tell just those that match says Yes of.
func TestAsMatchSays(t *testing.T) {
	s := testSchema(t)
	yes := 0
	for seed := range int64(10) {
		d := diceOf(s, seed)
		b := bothOf(t, s)
		for id := range uint64(60) {
			b.putEntry(id, d.entry())
		}
		for place := range types {
			full := s.Full(place)
			for _, value := range someValues {
				for kind, one := range map[int8]struct {
					rule int8
					says func(*schema.Schema, int8, string, string) api.Truth
				}{api.GetEqual: {full.Equal, match.Equal}, api.GetFrom: {full.Order, match.From}, api.GetUpTo: {full.Order, match.UpTo}} {
					key, has := match.Key(s, one.rule, value)
					q := api.Fetch{Kind: kind, Type: place, Key: key}
					if !has || !b.it.Can(q) {
						continue
					}
					var want []uint64
					for id := range uint64(60) {
						if slices.ContainsFunc(coveredBy(s, b.plain[id], place), func(own string) bool { return one.says(s, one.rule, own, value) == api.Yes }) {
							want = append(want, id)
						}
					}
					tellsOf(t, b.it, q, want...)
					yes += len(want)
				}
			}
		}
	}
	if yes < 1000 {
		t.Errorf("only %d were told", yes)
	}
}

// P14.7: GetFrom and GetUpTo of one key have together all that have a key, and in common at least those that GetEqual tells, where both rules make the same keys.
func TestFromAndUpToTogether(t *testing.T) {
	s := testSchema(t)
	for seed := range int64(10) {
		d := diceOf(s, seed)
		b := bothOf(t, s)
		for id := range uint64(40) {
			b.putEntry(id, d.entry())
		}
		for place := range types {
			full := s.Full(place)
			if full.Index&api.IxOrder == 0 {
				continue
			}
			var keyed []uint64
			for id := range uint64(40) {
				if len(keysBy(s, b.plain[id], place, full.Order)) > 0 {
					keyed = append(keyed, id)
				}
			}
			for _, key := range d.keys[full.Order] {
				behind, _ := b.it.Fetch(from(place, key))
				ahead, _ := b.it.Fetch(upTo(place, key))
				if both := idlist.Union(behind, ahead); !slices.Equal(both, keyed) {
					t.Fatalf("%d, %q: %v; want %v", place, key, both, keyed)
				}
				same, e := b.it.Fetch(equal(place, key))
				if e == api.OK && place != tMixed && len(idlist.Less(same, idlist.Meet(behind, ahead))) > 0 {
					t.Fatalf("%d, %q: %v is not in %v and %v", place, key, same, behind, ahead)
				}
			}
		}
	}
}
