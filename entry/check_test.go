package entry_test

import (
	"testing"

	"roster/api"
	"roster/entry"
	"roster/schema"
)

func checkCheck(t *testing.T, s *schema.Schema, e api.Entry, want api.Errno, wantAt int) {
	t.Helper()
	if code, at := entry.Check(s, e); code != want || at != wantAt {
		t.Errorf("Check(%s) = %v, %d; want %v, %d", shown(e), code, at, want, wantAt)
	}
}

// P8.2: the chapter's examples.
func TestCheckExamples(t *testing.T) {
	s := chapterSchema(t)
	e := made("cn|Ann", "objectClass|person|top")
	checkCheck(t, s, e, api.OK, 0)
	checkCheck(t, s, made("objectClass|person|top"), api.ErrMust, 0)
	checkCheck(t, s, with(e, attrOf("sn|X")), api.ErrType, 2)
	checkCheck(t, s, with(e, attrOf("name|X")), api.OK, 0)
	checkCheck(t, s, made("cn|a"), api.ErrClass, 0)
}

// P8.2: Tidy's error and place come first.
func TestCheckTellsTidysError(t *testing.T) {
	s := testSchema(t)
	for _, e := range []api.Entry{
		made("cn|a", "cn|A"), made("photo|a", "cn"), made("cn|a", "cn;x|a", "zz|a"), made("cn|a", "c n|a"), made("cn|a", "age|x"),
		made("objectClass|person", "cn|a", "age|1|1"),
		{Attrs: make([]api.Attr, api.MaxAttrs+1)},
	} {
		_, want, wantAt := entry.Tidy(s, e)
		if want == api.OK {
			t.Errorf("%s is tidy", shown(e))
		}
		checkCheck(t, s, e, want, wantAt)
	}
}

// P8.2: the classes.
func TestCheckClasses(t *testing.T) {
	s := testSchema(t)
	for _, c := range []struct {
		e    api.Entry
		want api.Errno
	}{
		{made(), api.ErrClass},
		{made("cn|a", "name|b"), api.ErrClass},
		{made("cn|a", "objectClass;x|person"), api.ErrClass},
		{made("cn|a", "kindBelow|person"), api.ErrClass},
		{made("cn|a", "objectClass|top"), api.ErrClass},
		{made("cn|a", "objectClass|extra"), api.ErrClass},
		{made("cn|a", "objectClass|person|named"), api.ErrClass},
		{made("cn|a", "objectClass|person", "kind|roomy"), api.ErrClass},
		{made("cn|a", "objectClass|person|nobody"), api.ErrClass},
		{made("cn|a", "objectClass|cn"), api.ErrClass},
		{made("cn|a", "objectClass|person"), api.OK},
		{made("cn|a", "OBJECTCLASS|Person"), api.OK},
		{made("cn|a", "kind|2.5.6.6"), api.OK},
		{made("cn|a", "2.5.4.0|top", "kind|HUMAN", "kind;x|nobody"), api.OK},
		{made("objectClass|roomy"), api.OK},
		{made("objectClass|roomy", "kind;x|top"), api.OK}, // of the type objectClass, with whatever options
	} {
		checkCheck(t, s, c.e, c.want, 0)
	}
}

// P8.2: what must be is there by the type, or by one below it, with whatever options; it is looked for ahead of what may not be.
func TestCheckMust(t *testing.T) {
	s := testSchema(t)
	for _, c := range []struct {
		e    api.Entry
		want api.Errno
		at   int
	}{
		{made("objectClass|person"), api.ErrMust, 0},
		{made("objectClass|person", "name|a"), api.ErrMust, 0}, // it lies above
		{made("objectClass|person", "sn|a"), api.ErrMust, 0},   // it lies beside, and may not be
		{made("objectClass|person", "cn;x|a"), api.OK, 0},
		{made("objectClass|named"), api.ErrMust, 0},
		{made("objectClass|named", "name|a"), api.OK, 0},
		{made("objectClass|named", "cn|a"), api.OK, 0},
		{made("objectClass|named", "cn;x;y|a"), api.OK, 0},
		{made("objectClass|named", "sn|a"), api.ErrMay, 1}, // what must be is there, but this may not
		{made("objectClass|named|extra", "sn|a"), api.OK, 0},
		{made("objectClass|roomy|strict"), api.ErrMust, 0},
		{made("objectClass|roomy|strict", "age|1"), api.ErrMust, 0},
		{made("objectClass|roomy|strict", "photo|1"), api.ErrMust, 0},
		{made("objectClass|roomy|strict", "photo|1", "age-b|1"), api.ErrMust, 0},
		{made("objectClass|roomy|strict", "photo|1", "age|1"), api.OK, 0},
		{made("objectClass|roomy|strict", "photo|1", "years|1"), api.OK, 0},
		{made("objectClass|person", "age|1|2", "flag|TRUE"), api.ErrMust, 0},
	} {
		checkCheck(t, s, c.e, c.want, c.at)
	}
}

// P8.2: what may be is told by its own type; the place is that in the tidy entry.
func TestCheckMay(t *testing.T) {
	s := testSchema(t)
	for _, c := range []struct {
		e  api.Entry
		at int
	}{
		{made("sn|x", "objectClass|person", "cn|a"), 2},                        // below name, which may be
		{made("objectClass|roomy", "cn|a"), 0},                                 // likewise
		{made("objectClass|person", "cn|a", "years|1"), 2},                     // below age, which may be
		{made("objectClass|person", "kindBelow|top", "cn|a"), 2},               // below objectClass
		{made("name|x", "flag;x|TRUE", "flag|TRUE", "kind|person", "cn|a"), 1}, // the first of two
		{made("flag;x|TRUE", "kind|person", "cn|a", "cn;x|a"), 2},
		{made("kind|person", "cn|a", "age|1|2", "moment|20240229235959Z", "alone|x"), 1}, // ahead of ErrMany
		{made("kind|person", "cn|a", "age|1|2", "moment|20240229235959Z"), 3},
	} {
		checkCheck(t, s, c.e, api.ErrMay, c.at)
	}
}

// P8.2: values of a type that has one, under all its descriptions together.
func TestCheckMany(t *testing.T) {
	s := testSchema(t)
	for _, c := range []struct {
		e    api.Entry
		want api.Errno
		at   int
	}{
		{made("kind|roomy", "age|1"), api.OK, 0},
		{made("kind|roomy", "age;x|1"), api.OK, 0},
		{made("kind|roomy", "age|1|2"), api.ErrMany, 0},
		{made("kind|roomy", "age|1", "1.1|2"), api.ErrMany, 0},
		{made("kind|roomy", "Blob|a", "age|1", "age;x|1"), api.ErrMany, 1},
		{made("kind|roomy", "age;y|1", "age;x|1", "age-b|1", "Blob|a"), api.ErrMany, 2},
		{made("kind|roomy", "age-b|1", "age|1", "age;x|1", "Blob|a"), api.ErrMany, 1}, // the first of its attributes, though another type's stands between
		{made("kind|roomy", "age-b|1|2", "age|1", "age;x|1"), api.ErrMany, 0},
		{made("kind|roomy", "age-b|1|2", "age|1"), api.ErrMany, 1},
		{made("kind|roomy", "age-b|1", "age-b;x|1", "age;x|1", "age;y|1"), api.ErrMany, 0},
		{made("kind|roomy", "age|1", "age-b|1", "years|1|2|3"), api.OK, 0}, // a type below is another one, and is itself not so
		{made("kind|roomy", "age|1", "years|1"), api.OK, 0},
		{made("kind|roomy", "count|1|2", "count;x|1"), api.OK, 0},
	} {
		checkCheck(t, s, c.e, c.want, c.at)
	}
}

// P8.2 as the chapter's words have it.
func TestCheckAsTheModel(t *testing.T) {
	s := testSchema(t)
	d := diceOf(s, 2)
	codes := map[api.Errno]int{}
	for range 40000 {
		e := d.entry()
		want, wantAt := modelCheck(s, e)
		checkCheck(t, s, e, want, wantAt)
		codes[want]++
	}
	for _, code := range []api.Errno{api.OK, api.ErrType, api.ErrHave, api.ErrClass, api.ErrMust, api.ErrMay, api.ErrMany} {
		if codes[code] < 100 {
			t.Errorf("%v came %d times", code, codes[code])
		}
	}
}
