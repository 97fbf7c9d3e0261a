package entry_test

import (
	"slices"
	"strings"
	"testing"

	"roster/api"
	"roster/entry"
	"roster/schema"
)

func checkApply(t *testing.T, s *schema.Schema, e api.Entry, want api.Entry, mods ...api.Mod) {
	t.Helper()
	got, code, at := entry.Apply(s, e, mods)
	if code != api.OK || at != 0 || !isSame(got, want) {
		t.Errorf("Apply(%s, %s) = %s, %v, %d; want %s", shown(e), shownMods(mods), shown(got), code, at, shown(want))
	}
}

// checkNoApply: R4 too: beside an error there is nothing.
func checkNoApply(t *testing.T, s *schema.Schema, e api.Entry, want api.Errno, wantAt int, mods ...api.Mod) {
	t.Helper()
	got, code, at := entry.Apply(s, e, mods)
	if code != want || at != wantAt || len(got.Attrs) != 0 {
		t.Errorf("Apply(%s, %s) = %s, %v, %d; want %v, %d", shown(e), shownMods(mods), shown(got), code, at, want, wantAt)
	}
}

// P8.3: the chapter's examples.
func TestApplyExamples(t *testing.T) {
	s := chapterSchema(t)
	e := made("cn|Ann", "objectClass|top|person")
	checkApply(t, s, made("cn|Ann", "objectClass|person|top"), made("cn|Ann|Bob", "objectClass|top|person"), mod(api.ModAdd, "cn|Bob"))
	checkNoApply(t, s, e, api.ErrHave, 0, mod(api.ModAdd, "cn|ANN"))
	checkNoApply(t, s, e, api.ErrLack, 0, mod(api.ModDelete, "cn|Bob"))
	checkNoApply(t, s, e, api.ErrMust, 1, mod(api.ModDelete, "cn"))
	checkApply(t, s, e, made("cn|Eve", "objectClass|top|person"), mod(api.ModDelete, "cn|ann"), mod(api.ModAdd, "commonName|Eve"))
	checkApply(t, s, e, e, mod(api.ModReplace, "name|X|Y"), mod(api.ModReplace, "name"))
	checkNoApply(t, s, e, api.ErrMod, 0, api.Mod{Op: 9})
}

// annWith is an entry to be changed: it may have values of all types but cn and objectClass's own.
func annWith(attrs ...string) api.Entry {
	e := made(append([]string{"kind|roomy|extra", "name|Ann"}, attrs...)...)
	slices.SortFunc(e.Attrs, func(a, b api.Attr) int { return strings.Compare(a.Desc, b.Desc) })
	return e
}

// P8.3: ModAdd.
func TestAdd(t *testing.T) {
	s := testSchema(t)
	e := annWith("photo|b", "count|1|2")
	checkApply(t, s, e, annWith("photo|b", "count|1|2|10"), mod(api.ModAdd, "1.2|10"))
	checkApply(t, s, e, annWith("photo||a|b|c", "count|1|2"), mod(api.ModAdd, "PHOTO|c||a"))
	checkApply(t, s, e, annWith("photo|b", "photo;x|b|c", "count|1|2"), mod(api.ModAdd, "photo;X|c|b"))
	checkApply(t, s, e, annWith("photo|b", "count|1|2", "flag|TRUE"), mod(api.ModAdd, "flag|TRUE"))
	checkNoApply(t, s, e, api.ErrLack, 0, mod(api.ModAdd, "flag"))
	checkNoApply(t, s, e, api.ErrLack, 0, mod(api.ModAdd, "photo"))
	checkNoApply(t, s, e, api.ErrValue, 0, mod(api.ModAdd, "count|01"))
	checkNoApply(t, s, e, api.ErrHave, 0, mod(api.ModAdd, "count|2"))
	checkNoApply(t, s, e, api.ErrHave, 0, mod(api.ModAdd, "count|3|3"))
	checkNoApply(t, s, e, api.ErrHave, 0, mod(api.ModAdd, "name|x| ANN "))
	checkNoApply(t, s, e, api.ErrHave, 0, mod(api.ModAdd, "photo|b"))
	checkNoApply(t, s, e, api.ErrHave, 0, mod(api.ModAdd, "photo|c|c"))
	checkNoApply(t, s, e, api.ErrHave, 1, mod(api.ModAdd, "flag|TRUE"), mod(api.ModAdd, "flag|TRUE"))
	checkNoApply(t, s, e, api.ErrHave, 0, mod(api.ModAdd, "count|2|x")) // value by value
	checkNoApply(t, s, e, api.ErrValue, 0, mod(api.ModAdd, "count|x|2"))
	checkNoApply(t, s, e, api.ErrValue, 0, mod(api.ModAdd, "count|3|x|3"))
}

// P8.3: ModDelete.
func TestDelete(t *testing.T) {
	s := testSchema(t)
	e := annWith("photo|a|b|c", "photo;x|a", "sn|A|a")
	checkApply(t, s, e, annWith("photo;x|a", "sn|A|a"), mod(api.ModDelete, "photo"))
	checkApply(t, s, e, annWith("photo|a|b|c", "sn|A|a"), mod(api.ModDelete, "1.4;x"))
	checkApply(t, s, e, annWith("photo|b", "photo;x|a", "sn|A|a"), mod(api.ModDelete, "photo|c|a"))
	checkApply(t, s, e, annWith("photo;x|a", "sn|A|a"), mod(api.ModDelete, "photo|c|a|b"))
	checkApply(t, s, e, annWith("photo|a|b|c", "photo;x|a", "sn|A"), mod(api.ModDelete, "surname|a"))
	checkApply(t, s, annWith("moment|20240229235959Z"), annWith(), mod(api.ModDelete, "moment|20240301005959+0100"))
	checkApply(t, s, annWith("seeAlso|cn=a|cn=b"), annWith("seeAlso|cn=b"), mod(api.ModDelete, "seeAlso|2.5.4.3=A"))
	checkApply(t, s, annWith("alone|Two  Words"), annWith(), mod(api.ModDelete, "alone| two words "))
	for _, attr := range []string{
		"flag", "flag|TRUE", "photo;y", "photo;y|a", "photo;x|b", "photo|d", "photo|a|a", "photo|a|d", "photo|A", "name|x", "bare|a",
		"count|01", "flag|true", "alone|", "alone|\xff", "digits|a", // these fit nothing, and are lacking all the same
	} {
		checkNoApply(t, s, e, api.ErrLack, 0, mod(api.ModDelete, attr))
	}
	checkNoApply(t, s, annWith("alone|a"), api.ErrLack, 0, mod(api.ModDelete, "alone|A|a"))
	checkNoApply(t, s, e, api.ErrLack, 1, mod(api.ModDelete, "photo"), mod(api.ModDelete, "photo"))
	checkNoApply(t, s, e, api.ErrLack, 1, mod(api.ModDelete, "photo;x|a"), mod(api.ModDelete, "photo;x"))
	checkApply(t, s, e, annWith("photo|a", "photo;x|a", "sn|A|a"), mod(api.ModDelete, "photo|a"), mod(api.ModDelete, "photo"), mod(api.ModAdd, "photo|a"))
}

// P8.3: a value that has no key is none of the values, whose keys its bytes may be.
func TestDeleteOfAKey(t *testing.T) {
	s := testSchema(t)
	key := "p\x00\x00\x011" // that of the number 1
	checkNoApply(t, s, annWith("count|1"), api.ErrLack, 0, mod(api.ModDelete, "count|"+key))
	checkNoApply(t, s, annWith("seeAlso|cn=a"), api.ErrLack, 0, mod(api.ModDelete, "seeAlso|"))
	checkNoApply(t, s, annWith("seeAlso|"), api.ErrLack, 0, mod(api.ModDelete, "seeAlso|zz=a")) // the key of the name without parts is empty
	checkApply(t, s, annWith("seeAlso|"), annWith(), mod(api.ModDelete, "seeAlso|"))
	checkNoApply(t, s, annWith("tally|1"), api.ErrLack, 0, mod(api.ModDelete, "tally|01"))
}

// P8.3: ModReplace.
func TestReplace(t *testing.T) {
	s := testSchema(t)
	e := annWith("photo|a|b", "photo;x|a", "alone|x")
	checkApply(t, s, e, annWith("photo|1|c", "photo;x|a", "alone|x"), mod(api.ModReplace, "photo|c|1"))
	checkApply(t, s, e, annWith("photo|b|c", "photo;x|a", "alone|x"), mod(api.ModReplace, "PHOTO|c|b"))
	checkApply(t, s, e, annWith("photo|a|b", "photo;x|a", "alone|X "), mod(api.ModReplace, "alone|X "))
	checkApply(t, s, e, annWith("photo|a|b", "photo;x|a", "alone|x", "flag|TRUE"), mod(api.ModReplace, "flag|TRUE"))
	checkApply(t, s, e, annWith("photo;x|a", "alone|x"), mod(api.ModReplace, "photo"))
	checkApply(t, s, e, e, mod(api.ModReplace, "flag"))
	checkApply(t, s, e, e, mod(api.ModReplace, "photo;y"), mod(api.ModReplace, "photo;y"))
	checkNoApply(t, s, e, api.ErrValue, 0, mod(api.ModReplace, "flag|x"))
	checkNoApply(t, s, e, api.ErrHave, 0, mod(api.ModReplace, "alone|b|B"))
	checkNoApply(t, s, e, api.ErrHave, 0, mod(api.ModReplace, "photo|b|b"))
	checkNoApply(t, s, e, api.ErrHave, 0, mod(api.ModReplace, "alone|b|B|"))
	checkNoApply(t, s, e, api.ErrValue, 0, mod(api.ModReplace, "alone|b||B"))
}

// P8.3: ModMore.
func TestMore(t *testing.T) {
	s := testSchema(t)
	e := annWith("age|9", "count|-1|8|98", "tally|-1|8|98")
	checkApply(t, s, e, annWith("age|10", "count|-1|8|98", "tally|-1|8|98"), mod(api.ModMore, "age|1"))
	checkApply(t, s, e, annWith("age|9", "count|1|10|100", "tally|-1|8|98"), mod(api.ModMore, "1.2|2"))
	checkApply(t, s, e, annWith("age|9", "count|-1|8|98", "tally|1|10|100"), mod(api.ModMore, "tally|2"))
	checkApply(t, s, e, annWith("age|9", "count|-1|8|98", "tally|-1|-100|-91"), mod(api.ModMore, "tally|-99"))
	checkApply(t, s, e, annWith("age|0", "count|-1|8|98", "tally|-1|8|98"), mod(api.ModMore, "age|-9"))
	checkApply(t, s, e, e, mod(api.ModMore, "count|0"), mod(api.ModMore, "tally|0"))
	checkApply(t, s, e, e, mod(api.ModMore, "count|-99"), mod(api.ModMore, "count|99"))
	checkNoApply(t, s, e, api.ErrMod, 0, mod(api.ModMore, "age"))
	checkNoApply(t, s, e, api.ErrMod, 0, mod(api.ModMore, "age|1|2"))
	checkNoApply(t, s, e, api.ErrMod, 0, mod(api.ModMore, "count|1|1"))
	checkNoApply(t, s, e, api.ErrMod, 0, mod(api.ModMore, "name|1"))
	checkNoApply(t, s, e, api.ErrMod, 0, mod(api.ModMore, "digits|1"))
	checkNoApply(t, s, e, api.ErrMod, 0, mod(api.ModMore, "photo|1"))
	checkNoApply(t, s, e, api.ErrMod, 0, mod(api.ModMore, "age|x|x"))
	checkNoApply(t, s, e, api.ErrMod, 0, mod(api.ModMore, "flag|x"))
	checkNoApply(t, s, e, api.ErrValue, 0, mod(api.ModMore, "age|01"))
	checkNoApply(t, s, e, api.ErrValue, 0, mod(api.ModMore, "age;x|x")) // ahead of there being no values
	checkNoApply(t, s, e, api.ErrLack, 0, mod(api.ModMore, "age;x|1"))
	checkNoApply(t, s, e, api.ErrLack, 0, mod(api.ModMore, "years|1"))
	checkNoApply(t, s, e, api.ErrLack, 1, mod(api.ModDelete, "age"), mod(api.ModMore, "age|1"))
}

// P8.3: sums that grow too long.
func TestMoreOfLongNumbers(t *testing.T) {
	s := testSchema(t)
	nines := strings.Repeat("9", api.MaxText)
	nearly := strings.Repeat("9", api.MaxText-1)
	checkNoApply(t, s, annWith("count|"+nines), api.ErrValue, 0, mod(api.ModMore, "count|1"))
	checkNoApply(t, s, annWith("tally|1|5|"+nines), api.ErrValue, 0, mod(api.ModMore, "tally|1"))
	checkNoApply(t, s, annWith("count|-"+nearly), api.ErrValue, 0, mod(api.ModMore, "count|-1"))
	checkNoApply(t, s, annWith("count|1"), api.ErrValue, 0, mod(api.ModMore, "count|"+nines))
	checkApply(t, s, annWith("count|"+nearly), annWith("count|1"+strings.Repeat("0", api.MaxText-1)), mod(api.ModMore, "count|1"))
	checkApply(t, s, annWith("count|"+nines), annWith("count|9"+strings.Repeat("0", api.MaxText-1)), mod(api.ModMore, "count|-"+nearly))
}

// P8.3: an Op that is none of the four, ahead of all else.
func TestNoSuchChange(t *testing.T) {
	s := testSchema(t)
	for op := -128; op < 128; op++ {
		if op >= api.ModAdd && op <= api.ModMore {
			continue
		}
		checkNoApply(t, s, annWith(), api.ErrMod, 0, mod(int8(op), "flag|TRUE"))
		checkNoApply(t, s, annWith(), api.ErrMod, 1, mod(api.ModAdd, "flag|TRUE"), mod(int8(op), "zz"))
		checkNoApply(t, s, annWith(), api.ErrMod, 0, mod(int8(op), "c n|"+strings.Repeat("x", api.MaxText+1)))
	}
}

// P8.3: what is wrong with a change's description or values, whatever its Op is, in this order.
func TestChangesThatCannotBe(t *testing.T) {
	s := testSchema(t)
	long := strings.Repeat("1", api.MaxText+1)
	tooMany := strings.Repeat("|1", api.MaxValues+1)
	for _, op := range []int8{api.ModAdd, api.ModDelete, api.ModReplace, api.ModMore} {
		for _, c := range []struct {
			attr string
			want api.Errno
		}{
			{"|1", api.ErrName},
			{"cn;|1", api.ErrName},
			{"zz|1", api.ErrType},
			{"zz", api.ErrType},
			{"zz;x" + tooMany, api.ErrType},
			{"cn;" + long + "|1", api.ErrLong},
			{"cn;a;b;c;d;e;f;g;h;i|1", api.ErrLong},
			{"count" + tooMany, api.ErrLong},
			{"flag" + tooMany, api.ErrLong},
			{"count|" + long, api.ErrLong},
			{"flag|x|x|" + long, api.ErrLong}, // ahead of all that the Op says
			{"years|" + long, api.ErrLong},
			{"photo|1|1|" + long + "|1", api.ErrLong},
		} {
			checkNoApply(t, s, annWith("count|5"), c.want, 0, mod(op, c.attr))
			checkNoApply(t, s, annWith("count|5"), c.want, 1, mod(api.ModReplace, "flag"), mod(op, c.attr))
		}
	}
}

// P8.3: what is wrong with the entry is told at 0; more changes than may be come ahead of it.
func TestApplyToWhatIsNotTidy(t *testing.T) {
	s := testSchema(t)
	for _, e := range []api.Entry{made("cn|a", "cn|A"), made("cn|a", "photo|a", "cn"), made("cn|a", "zz|a"), made("cn|a", "age|x"), {Attrs: make([]api.Attr, api.MaxAttrs+1)}} {
		_, want, _ := entry.Tidy(s, e)
		if want == api.OK {
			t.Errorf("%s is tidy", shown(e))
		}
		checkNoApply(t, s, e, want, 0)
		checkNoApply(t, s, e, want, 0, mod(api.ModDelete, "cn"), mod(9, "cn"))
		checkNoApply(t, s, e, api.ErrLong, 0, make([]api.Mod, api.MaxMods+1)...)
	}
	checkApply(t, s, made("KIND|extra|ROOMY", "Name| Ann"), made("kind|ROOMY|extra", "name| Ann"))
}

// P8.3: at most MaxMods changes.
func TestManyChanges(t *testing.T) {
	s := testSchema(t)
	mods := slices.Repeat([]api.Mod{mod(api.ModMore, "count|1")}, api.MaxMods)
	checkApply(t, s, annWith("count|1"), annWith("count|1025"), mods...)
	checkNoApply(t, s, annWith("count|1"), api.ErrLong, 0, append(mods, mods[0])...)
	mods[api.MaxMods-1] = mod(api.ModDelete, "flag")
	checkNoApply(t, s, annWith("count|1"), api.ErrLack, api.MaxMods-1, mods...)
	mods[api.MaxMods-1] = mod(api.ModDelete, "kind")
	checkNoApply(t, s, annWith("count|1"), api.ErrClass, api.MaxMods, mods...)
}

// P8.3: at most MaxAttrs descriptions behind each change.
func TestApplyManyAttributes(t *testing.T) {
	s := testSchema(t)
	e := with(annWith(), manyAttrs(api.MaxAttrs-2)...)
	checkNoApply(t, s, e, api.ErrLong, 0, mod(api.ModAdd, "flag|TRUE"))
	checkNoApply(t, s, e, api.ErrLong, 0, mod(api.ModReplace, "flag|TRUE"))
	checkNoApply(t, s, e, api.ErrLong, 0, mod(api.ModAdd, "flag|TRUE"), mod(api.ModDelete, "photo;o7"))
	checkNoApply(t, s, e, api.ErrLack, 0, mod(api.ModDelete, "flag"))
	tidy, _, _ := entry.Tidy(s, e)
	checkApply(t, s, e, tidy, mod(api.ModReplace, "flag"))
	checkApply(t, s, e, tidy, mod(api.ModDelete, "photo;o7"), mod(api.ModAdd, "photo;o7|x"))
	checkApply(t, s, e, tidy, mod(api.ModReplace, "photo;o7"), mod(api.ModReplace, "photo;o7|x"))
	checkApply(t, s, e, tidy, mod(api.ModAdd, "photo;o7|y"), mod(api.ModDelete, "photo;o7|y"))
}

// P8.3: at most MaxValues values of one description behind each change.
func TestApplyManyValues(t *testing.T) {
	s := testSchema(t)
	e := with(annWith(), api.Attr{Desc: "tally", Values: numbers(1000, api.MaxValues)})
	tidy, _, _ := entry.Tidy(s, e)
	checkApply(t, s, e, tidy, mod(api.ModDelete, "tally|1000"), mod(api.ModAdd, "tally|1000"))
	checkNoApply(t, s, e, api.ErrLong, 0, mod(api.ModAdd, "tally|1"))
	checkNoApply(t, s, e, api.ErrLong, 0, mod(api.ModAdd, "tally|1"), mod(api.ModDelete, "tally|1"))
	checkNoApply(t, s, e, api.ErrHave, 0, mod(api.ModAdd, "tally|1|2|1000"))
	checkNoApply(t, s, e, api.ErrValue, 0, mod(api.ModAdd, "tally|1|x"))
	checkNoApply(t, s, e, api.ErrLong, 1, mod(api.ModAdd, "tally;x|1"), mod(api.ModAdd, "1.3|1"))
	checkApply(t, s, e, tidy, api.Mod{Op: api.ModReplace, Attr: e.Attrs[2]})
	checkApply(t, s, e, annWith(), api.Mod{Op: api.ModDelete, Attr: e.Attrs[2]})
	checkApply(t, s, annWith(), tidy, api.Mod{Op: api.ModAdd, Attr: e.Attrs[2]})
	checkNoApply(t, s, annWith("tally|1"), api.ErrLong, 0, api.Mod{Op: api.ModAdd, Attr: e.Attrs[2]})
	more, _, _ := entry.Tidy(s, with(annWith(), api.Attr{Desc: "tally", Values: numbers(9000, api.MaxValues)}))
	checkApply(t, s, e, more, mod(api.ModMore, "tally|8000"))
}

// P8.3: at most MaxBytes bytes of descriptions and values behind each change.
func TestApplyManyBytes(t *testing.T) {
	s := testSchema(t)
	own := len("kind") + len("roomy") + len("extra") + len("name") + len("Ann") + len("photo") + len("tally") + len("9")
	e := with(annWith("tally|9"), api.Attr{Desc: "photo", Values: bulk(api.MaxBytes - own)})
	tidy, code, _ := entry.Tidy(s, e)
	if code != api.OK {
		t.Fatal(code)
	}
	checkApply(t, s, e, tidy)
	checkApply(t, s, e, tidy, mod(api.ModAdd, "photo|"), mod(api.ModDelete, "photo|"))
	checkNoApply(t, s, e, api.ErrLong, 0, mod(api.ModAdd, "photo|1"))
	checkNoApply(t, s, e, api.ErrLong, 0, mod(api.ModAdd, "photo|1"), mod(api.ModDelete, "photo|1"))
	checkNoApply(t, s, e, api.ErrLong, 0, mod(api.ModAdd, "photo;x|"))
	checkNoApply(t, s, e, api.ErrHave, 0, mod(api.ModAdd, "photo|1|1"))
	checkNoApply(t, s, e, api.ErrLong, 0, mod(api.ModMore, "tally|1"))
	checkNoApply(t, s, e, api.ErrLong, 1, mod(api.ModMore, "tally|-1"), mod(api.ModMore, "tally|2"))
	checkNoApply(t, s, e, api.ErrLong, 0, mod(api.ModReplace, "name|Anna"))
	checkApply(t, s, e, tidy, mod(api.ModReplace, "name|Ann"), mod(api.ModReplace, "tally|0"), mod(api.ModReplace, "tally|9"))
	checkApply(t, s, e, tidy, mod(api.ModDelete, "tally"), mod(api.ModAdd, "photo|123456"), mod(api.ModDelete, "photo|123456"), mod(api.ModAdd, "tally|9"))
	checkNoApply(t, s, e, api.ErrLong, 1, mod(api.ModDelete, "tally"), mod(api.ModAdd, "photo|1234567"))
	checkNoApply(t, s, e, api.ErrLong, 2, mod(api.ModDelete, "tally|9"), mod(api.ModAdd, "photo|123456"), mod(api.ModAdd, "tally|9"))
	checkNoApply(t, s, e, api.ErrLong, 1, mod(api.ModReplace, "tally"), mod(api.ModAdd, "photo|1234567"))
	checkNoApply(t, s, e, api.ErrLong, 0, mod(api.ModMore, "tally|1000"), mod(api.ModMore, "tally|-1000"))
}

// P8.3: Check's errors of what there is behind the last change, and only there, at the number of the changes.
func TestApplyChecks(t *testing.T) {
	s := testSchema(t)
	e := made("cn|Ann", "kind|person")
	checkNoApply(t, s, e, api.ErrClass, 1, mod(api.ModDelete, "kind"))
	checkNoApply(t, s, e, api.ErrClass, 2, mod(api.ModAdd, "name|x"), mod(api.ModAdd, "kind|roomy"))
	checkNoApply(t, s, e, api.ErrMust, 1, mod(api.ModDelete, "cn|ANN"))
	checkNoApply(t, s, e, api.ErrMust, 2, mod(api.ModDelete, "cn"), mod(api.ModAdd, "name|x"))
	checkNoApply(t, s, e, api.ErrMay, 1, mod(api.ModAdd, "flag|TRUE"))
	checkNoApply(t, s, e, api.ErrMany, 1, mod(api.ModAdd, "age|1|2"))
	checkNoApply(t, s, e, api.ErrMany, 3, mod(api.ModAdd, "age|1"), mod(api.ModAdd, "age;x|1"), mod(api.ModAdd, "name|x"))
	checkNoApply(t, s, made("cn|a"), api.ErrClass, 0)
	checkNoApply(t, s, made("cn|a", "flag|TRUE", "kind|person"), api.ErrMay, 0)
	checkApply(t, s, e, made("kind|roomy"), mod(api.ModReplace, "kind|top|zz"), mod(api.ModDelete, "cn"), mod(api.ModReplace, "kind|roomy"))
	checkApply(t, s, e, e, mod(api.ModAdd, "age|1|2"), mod(api.ModAdd, "flag|TRUE"), mod(api.ModDelete, "flag"), mod(api.ModDelete, "age"))
	checkApply(t, s, made("cn|a", "flag|TRUE"), made("cn|a", "kind|person"), mod(api.ModAdd, "kind|person"), mod(api.ModDelete, "flag"))
	checkApply(t, s, e, made("cn;x|b", "kind|person"), mod(api.ModDelete, "cn"), mod(api.ModAdd, "cn;x|b"))
}

// P8.3 as the chapter's words have it.
func TestApplyAsTheModel(t *testing.T) {
	s := testSchema(t)
	d := diceOf(s, 3)
	codes := map[api.Errno]int{}
	for range 40000 {
		e, mods := d.entry(), d.mods()
		want, wantCode, wantAt := modelApply(s, e, mods)
		got, code, at := entry.Apply(s, e, mods)
		if code != wantCode || at != wantAt || !isSame(got, want) {
			t.Fatalf("Apply(%s, %s) = %s, %v, %d; want %s, %v, %d", shown(e), shownMods(mods), shown(got), code, at, shown(want), wantCode, wantAt)
		}
		codes[code]++
	}
	for _, code := range []api.Errno{api.OK, api.ErrName, api.ErrType, api.ErrValue, api.ErrClass, api.ErrMust, api.ErrMay, api.ErrHave, api.ErrLack, api.ErrMany, api.ErrMod} {
		if codes[code] < 100 {
			t.Errorf("%v came %d times", code, codes[code])
		}
	}
}
