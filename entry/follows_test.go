package entry_test

import (
	"slices"
	"strings"
	"testing"

	"roster/api"
	"roster/entry"
	"roster/match"
	"roster/schema"
)

// bytesOf are those of descriptions and values.
func bytesOf(e api.Entry) int {
	bytes := 0
	for _, attr := range e.Attrs {
		bytes += len(attr.Desc) + len(strings.Join(attr.Values, ""))
	}
	return bytes
}

// isTidy asks what section Words says of a tidy entry.
func isTidy(s *schema.Schema, e api.Entry) bool {
	for i, attr := range e.Attrs {
		canon, code := s.Canon(attr.Desc)
		if code != api.OK || canon != attr.Desc || len(attr.Values) == 0 || i > 0 && e.Attrs[i-1].Desc >= attr.Desc {
			return false
		}
		place := placeOf(s, attr.Desc)
		for j, value := range attr.Values {
			if !match.Fits(s, place, value) || modelFind(s, place, attr.Values[:j], value) >= 0 {
				return false
			}
		}
	}
	sorted := entry.Twin(e)
	modelSort(s, sorted)
	return isSame(e, sorted) && bytesOf(e) <= api.MaxBytes
}

// P8.6: what is tidy is so by the words, and stays so.
func TestTidyStaysTidy(t *testing.T) {
	s := testSchema(t)
	d := diceOf(s, 5)
	tidied := 0
	for range 10000 {
		e, code, _ := entry.Tidy(s, d.entry())
		if code != api.OK {
			continue
		}
		tidied++
		if !isTidy(s, e) {
			t.Fatalf("%s is not tidy", shown(e))
		}
		checkTidy(t, s, e, e)
		if changed, code, _ := entry.Apply(s, e, d.mods()); code == api.OK {
			if !isTidy(s, changed) {
				t.Fatalf("%s is not tidy", shown(changed))
			}
			checkTidy(t, s, changed, changed)
		}
	}
	if tidied < 1000 {
		t.Errorf("only %d", tidied)
	}
}

// written are other ways to write a description.
func written(d dice, desc string) string {
	word, options, _ := strings.Cut(desc, ";")
	full := d.s.Full(d.s.Type(word))
	names := append([]string{full.Oid}, full.Names...)
	out := names[d.Intn(len(names))]
	if d.Intn(2) == 0 {
		out = strings.ToUpper(out)
	}
	list := strings.FieldsFunc(options, func(r rune) bool { return r == ';' })
	d.Shuffle(len(list), func(i, j int) { list[i], list[j] = list[j], list[i] })
	for _, option := range list {
		if d.Intn(2) == 0 {
			option = strings.ToUpper(option)
		}
		out += ";" + option
		if d.Intn(4) == 0 {
			out += ";" + strings.ToLower(option)
		}
	}
	return out
}

// mixed is the same entry written another way: other names and options, attributes cut in pieces, all in another order.
func mixed(d dice, e api.Entry) api.Entry {
	var out api.Entry
	for _, attr := range e.Attrs {
		values := slices.Clone(attr.Values)
		d.Shuffle(len(values), func(i, j int) { values[i], values[j] = values[j], values[i] })
		for len(values) > 0 {
			cut := 1 + d.Intn(len(values))
			out.Attrs = append(out.Attrs, api.Attr{Desc: written(d, attr.Desc), Values: values[:cut]})
			values = values[cut:]
		}
	}
	d.Shuffle(len(out.Attrs), func(i, j int) { out.Attrs[i], out.Attrs[j] = out.Attrs[j], out.Attrs[i] })
	return out
}

// P8.6: neither orders nor names nor letters of options make a difference.
func TestTidyOfWhateverOrder(t *testing.T) {
	s := testSchema(t)
	d := diceOf(s, 6)
	for range 3000 {
		e, code, _ := entry.Tidy(s, d.entry())
		if code != api.OK {
			continue
		}
		for range 3 {
			checkTidy(t, s, mixed(d, e), e)
		}
		want, _ := entry.Check(s, e)
		if got, _ := entry.Check(s, mixed(d, e)); got != want {
			t.Fatalf("Check(%s): %v and %v", shown(e), got, want)
		}
	}
}

// P8.7: a batch is its changes, one by one, as far as each entry between may be.
func TestABatchIsItsChanges(t *testing.T) {
	s := testSchema(t)
	d := diceOf(s, 7)
	held := 0
	for range 30000 {
		e, mods := d.entry(), d.mods()
		want, code, _ := entry.Apply(s, e, mods)
		if code != api.OK {
			continue
		}
		now, ok := e, len(mods) > 0
		for _, mod := range mods {
			if now, code, _ = entry.Apply(s, now, []api.Mod{mod}); code != api.OK {
				ok = false
				break
			}
		}
		if ok {
			held++
			if !isSame(now, want) {
				t.Fatalf("Apply(%s, %s): one by one %s, together %s", shown(e), shownMods(mods), shown(now), shown(want))
			}
		} else if len(mods) > 0 && !slices.Contains([]api.Errno{api.ErrClass, api.ErrMust, api.ErrMay, api.ErrMany}, code) {
			t.Fatalf("Apply(%s, %s): one by one %v", shown(e), shownMods(mods), code)
		}
	}
	if held < 300 {
		t.Errorf("only %d", held)
	}
}

// P8.7: no changes are Tidy, where Check is OK.
func TestNoChanges(t *testing.T) {
	s := testSchema(t)
	d := diceOf(s, 8)
	for range 10000 {
		e := d.entry()
		code, _ := entry.Check(s, e)
		got, same, at := entry.Apply(s, e, nil)
		if same != code || at != 0 {
			t.Fatalf("%s: Check says %v, Apply %v at %d", shown(e), code, same, at)
		}
		if tidy, _, _ := entry.Tidy(s, e); code == api.OK && !isSame(got, tidy) {
			t.Fatalf("%s: Apply says %s, Tidy %s", shown(e), shown(got), shown(tidy))
		}
	}
}

// P8.7: what ModAdd put in, ModDelete of the same values takes out, in one list and in two.
func TestAddThenDelete(t *testing.T) {
	s := testSchema(t)
	d := diceOf(s, 9)
	held := 0
	for range 30000 {
		e, attr := d.entry(), d.attr(3)
		before, code, _ := entry.Apply(s, e, nil)
		if code != api.OK {
			continue
		}
		more, code, _ := entry.Apply(s, e, []api.Mod{{Op: api.ModAdd, Attr: attr}})
		if code != api.OK {
			continue
		}
		held++
		d.Shuffle(len(attr.Values), func(i, j int) { attr.Values[i], attr.Values[j] = attr.Values[j], attr.Values[i] })
		checkApply(t, s, more, before, api.Mod{Op: api.ModDelete, Attr: attr})
		checkApply(t, s, e, before, api.Mod{Op: api.ModAdd, Attr: attr}, api.Mod{Op: api.ModDelete, Attr: attr})
	}
	if held < 300 {
		t.Errorf("only %d", held)
	}
}
