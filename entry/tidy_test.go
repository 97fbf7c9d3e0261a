package entry_test

import (
	"strconv"
	"strings"
	"testing"

	"roster/api"
	"roster/entry"
	"roster/schema"
)

func checkTidy(t *testing.T, s *schema.Schema, e, want api.Entry) {
	t.Helper()
	got, code, at := entry.Tidy(s, e)
	if code != api.OK || at != 0 || !isSame(got, want) {
		t.Errorf("Tidy(%s) = %s, %v, %d; want %s", shown(e), shown(got), code, at, shown(want))
	}
}

// checkNotTidy: R4 too: beside an error there is nothing.
func checkNotTidy(t *testing.T, s *schema.Schema, e api.Entry, want api.Errno, wantAt int) {
	t.Helper()
	got, code, at := entry.Tidy(s, e)
	if code != want || at != wantAt || len(got.Attrs) != 0 {
		t.Errorf("Tidy(%s) = %s, %v, %d; want %v, %d", shown(e), shown(got), code, at, want, wantAt)
	}
}

// P8.1: the chapter's examples.
func TestTidyExamples(t *testing.T) {
	s := chapterSchema(t)
	checkTidy(t, s, made("CommonName|b  B|A", "2.5.4.3|c"), made("cn|A|b  B|c"))
	checkNotTidy(t, s, made("cn|a|A"), api.ErrHave, 0)
	checkTidy(t, s, made("cn;x|a", "cn|a"), made("cn|a", "cn;x|a"))
	checkNotTidy(t, s, made("cn"), api.ErrLack, 0)
	checkNotTidy(t, s, made("sn|a"), api.ErrType, 0)
	checkNotTidy(t, s, made("cn|"), api.ErrValue, 0)
}

// P8.1: attributes rise by their Canons, byte by byte, each stands once; values stand as they were written.
func TestTidyAttributes(t *testing.T) {
	s := testSchema(t)
	for _, c := range []struct{ e, want api.Entry }{
		{made(), made()},
		{made("cn|a"), made("cn|a")},
		{made("SURNAME|x", "2.5.4.3|b", "name|c"), made("cn|b", "name|c", "sn|x")},
		{made("blob|1", "age|1", "cn|1"), made("Blob|1", "age|1", "cn|1")},         // great letters come first
		{made("age;b|1", "age-b|2", "age|3"), made("age|3", "age-b|2", "age;b|1")}, // - comes ahead of ;
		{made("cn;y;X|a", "cn;x|b", "cn;x;Y|c", "cn;X-1|d"), made("cn;x|b", "cn;x-1|d", "cn;x;y|a|c")},
		{made("cn;x;X;x|a"), made("cn;x|a")},
		{made("cn|B", "cn;x|q", "CN|a", "commonName|C"), made("cn|a|B|C", "cn;x|q")},
		{made("cn| b  B |A"), made("cn|A| b  B ")},
		{made("ObjectClass|named", "KIND|person|top"), made("kind|top|person|named")},
	} {
		checkTidy(t, s, c.e, c.want)
	}
}

// P8.1: values rise by their keys, or, without a rule for equality, by their bytes.
func TestTidyValues(t *testing.T) {
	s := testSchema(t)
	for _, c := range []struct{ e, want string }{
		{"cn|b|A|C|a a", "cn|A|a a|b|C"},
		{"cn|a|  |B", "cn|  |a|B"},
		{"sn|b|A|C|a a", "sn|A|C|a a|b"}, // its own rule, which is not that of name
		{"name|b|A|C|a a", "name|A|a a|b|C"},
		{"bare|b|A|C|a|a  a|a b| z", "bare| z|A|C|a|a  a|a b|b"},
		{"count|10|9|-3|-20|0|100", "count|-20|-3|0|9|10|100"},
		{"years|10|9|-3|-20", "years|-20|-3|9|10"}, // the rule of the type above it
		{"tally|10|9|-3|-20|0|100", "tally|-20|-3|0|10|100|9"},
		{"photo|b||a|\xff|A", "photo||A|a|b|\xff"},
		{"blob|b||a|\xff|A", "Blob||A|a|b|\xff"},
		{"flag|TRUE|FALSE", "flag|FALSE|TRUE"},
		{"moment|20240229235959.5Z|20240229235959Z|20240229000000-2359|20240229235959+0001", "moment|20240229235959+0001|20240229000000-2359|20240229235959Z|20240229235959.5Z"},
		{"phone|+49 31|+49 (0)|+ 4930", "phone|+49 (0)|+ 4930|+49 31"},
		{"digits|1 0|0 9|2|11", "digits|0 9|1 0|11|2"},
		{"seeAlso|cn=b|CN=A|cn=c,cn=a", "seeAlso|CN=A|cn=c,cn=a|cn=b"},
		{"kind|zz|top|PERSON|2.5.6.7|cn|a", "kind|cn|top|PERSON|2.5.6.7|a|zz"},
	} {
		e := made(c.e)
		checkTidy(t, s, e, made(c.want))
		last := len(e.Attrs[0].Values) - 1
		for i := range (last + 1) / 2 {
			e.Attrs[0].Values[i], e.Attrs[0].Values[last-i] = e.Attrs[0].Values[last-i], e.Attrs[0].Values[i]
		}
		checkTidy(t, s, e, made(c.want))
	}
}

// P8.1: values that are the same, within an attribute and over those of one Canon; under another Canon they may be.
func TestTidyHave(t *testing.T) {
	s := testSchema(t)
	for _, c := range []struct {
		e  api.Entry
		at int
	}{
		{made("cn|a|a"), 0},
		{made("cn|a|b| A "), 0},
		{made("name|q", "cn|a", "cn|a"), 2},
		{made("cn|a", "name|a", "commonName|b|A"), 2},
		{made("cn;x|a", "cn|a", "2.5.4.3;X|a"), 2},
		{made("cn;x;y|a", "cn;Y;x|a"), 1},
		{made("photo|a|a"), 0},
		{made("photo|", "photo|"), 1},
		{made("blob|\xff|\xff"), 0},
		{made("phone|+49|+4-9"), 0},
		{made("digits|1 2|12"), 0},
		{made("moment|20240229235959Z|20240301005959+0100"), 0},
		{made("kind|person|HUMAN"), 0},
		{made("kind|person|2.5.6.6"), 0},
		{made("kind|zz|ZZ"), 0},
		{made("seeAlso|cn=a|2.5.4.3=A"), 0},
		{made("years|1|1"), 0},
		{made("sn|a|b|a"), 0},
		{made("sn|a b|a  b"), 0},
		{made("bare|a|a"), 0},
	} {
		checkNotTidy(t, s, c.e, api.ErrHave, c.at)
	}
	for _, c := range []struct{ e, want api.Entry }{
		{made("cn|a", "cn;x|a", "cn;x;y|a"), made("cn|a", "cn;x|a", "cn;x;y|a")},
		{made("cn|a", "name|a", "sn|a"), made("cn|a", "name|a", "sn|a")},
		{made("sn|a|A"), made("sn|A|a")},
		{made("bare|a|A| a|a "), made("bare| a|A|a|a ")},
		{made("photo|a|A| a"), made("photo| a|A|a")},
		{made("seeAlso|cn=a", "bareName|cn=a|CN=A|2.5.4.3=a"), made("bareName|2.5.4.3=a|CN=A|cn=a", "seeAlso|cn=a")},
	} {
		checkTidy(t, s, c.e, c.want)
	}
}

// P8.1: what is wrong with an attribute, and its place.
func TestTidyErrors(t *testing.T) {
	s := testSchema(t)
	long := strings.Repeat("x", api.MaxText+1)
	for _, c := range []struct {
		e    api.Entry
		want api.Errno
		at   int
	}{
		{made("cn|a", "|a"), api.ErrName, 1},
		{made("cn|a", "cn;|a"), api.ErrName, 1},
		{made("c n|a"), api.ErrName, 0},
		{made("cn|a", "cn;x|a", "zz|a"), api.ErrType, 2},
		{made("9.9|a"), api.ErrType, 0},
		{made("cn;a;b;c;d;e;f;g;h;i|a"), api.ErrLong, 0},
		{made("cn|a", "cn;"+long+"|a"), api.ErrLong, 1},
		{made("cn|a", "commonName"), api.ErrLack, 1},
		{made("cn|a", "age|01"), api.ErrValue, 1},
		{made("flag|true"), api.ErrValue, 0},
		{made("moment|20230229000000Z"), api.ErrValue, 0},
		{made("digits|a"), api.ErrValue, 0},
		{made("phone|-"), api.ErrValue, 0},
		{made("kind|a b"), api.ErrValue, 0},
		{made("seeAlso|zz=a"), api.ErrValue, 0},
		{made("cn|\xff"), api.ErrValue, 0},
		{made("bare|"), api.ErrValue, 0},
		{made("cn|" + long), api.ErrLong, 0},
		{made("cn|a", "photo|a|"+long), api.ErrLong, 1},
	} {
		checkNotTidy(t, s, c.e, c.want, c.at)
	}
}

// R5: of several errors the first, attribute by attribute, and in one of them as P8.1 names them.
func TestTidyFirstError(t *testing.T) {
	s := testSchema(t)
	long := strings.Repeat("x", api.MaxText+1)
	tooMany := strings.Repeat("|1", api.MaxValues+1)
	for _, c := range []struct {
		e    api.Entry
		want api.Errno
		at   int
	}{
		{made("cn", "zz|a"), api.ErrLack, 0},
		{made("zz|a", "cn"), api.ErrType, 0},
		{made("cn|a|A", "zz"), api.ErrHave, 0},
		{made("zz"), api.ErrType, 0},
		{made("cn;"), api.ErrName, 0},
		{made("zz" + tooMany), api.ErrType, 0},
		{made("cn;" + tooMany), api.ErrName, 0},
		{made("zz|" + long), api.ErrType, 0},
		{made("age" + tooMany + "|" + long), api.ErrLong, 0},
		{made("flag" + tooMany), api.ErrLong, 0}, // none of these fits
		{made("age|" + long), api.ErrLong, 0},    // nor does this
		{made("age|x|" + long), api.ErrValue, 0},
		{made("age|" + long + "|x"), api.ErrLong, 0},
		{made("age|1|1|x"), api.ErrHave, 0},
		{made("age|1|x|1"), api.ErrValue, 0},
		{made("age|x|x"), api.ErrValue, 0},
		{made("cn|a|a|" + long), api.ErrHave, 0},
	} {
		checkNotTidy(t, s, c.e, c.want, c.at)
	}
}

// manyAttrs has so many attributes, all under one type, no two of one Canon.
func manyAttrs(many int) []api.Attr {
	var attrs []api.Attr
	for i := range many {
		attrs = append(attrs, api.Attr{Desc: "photo;o" + strconv.Itoa(i), Values: []string{"x"}})
	}
	return attrs
}

// numbers are so many values, from one number on.
func numbers(from, many int) []string {
	var values []string
	for i := range many {
		values = append(values, strconv.Itoa(from+i))
	}
	return values
}

// P8.1: at most MaxAttrs attributes, as they come.
func TestTidyManyAttributes(t *testing.T) {
	s := testSchema(t)
	got, code, at := entry.Tidy(s, api.Entry{Attrs: manyAttrs(api.MaxAttrs)})
	if code != api.OK || at != 0 || len(got.Attrs) != api.MaxAttrs {
		t.Errorf("%v at %d, %d attributes", code, at, len(got.Attrs))
	}
	checkNotTidy(t, s, api.Entry{Attrs: manyAttrs(api.MaxAttrs + 1)}, api.ErrLong, 0)
	checkNotTidy(t, s, api.Entry{Attrs: make([]api.Attr, api.MaxAttrs+1)}, api.ErrLong, 0)
	checkNotTidy(t, s, api.Entry{Attrs: make([]api.Attr, api.MaxAttrs)}, api.ErrName, 0)
	var ofOne []api.Attr
	for i := range api.MaxAttrs {
		ofOne = append(ofOne, api.Attr{Desc: "count", Values: []string{strconv.Itoa(i)}})
	}
	checkTidy(t, s, api.Entry{Attrs: ofOne}, api.Entry{Attrs: []api.Attr{{Desc: "count", Values: numbers(0, api.MaxAttrs)}}})
	ofOne = append(ofOne, api.Attr{Desc: "count", Values: []string{"-1"}})
	checkNotTidy(t, s, api.Entry{Attrs: ofOne}, api.ErrLong, 0)
}

// P8.1: at most MaxValues values under one Canon.
func TestTidyManyValues(t *testing.T) {
	s := testSchema(t)
	full := api.Attr{Desc: "count", Values: numbers(1000, api.MaxValues)}
	checkTidy(t, s, api.Entry{Attrs: []api.Attr{full}}, api.Entry{Attrs: []api.Attr{full}})
	checkNotTidy(t, s, api.Entry{Attrs: []api.Attr{{Desc: "count", Values: numbers(0, api.MaxValues+1)}}}, api.ErrLong, 0)
	other := api.Attr{Desc: "count;x", Values: full.Values}
	checkTidy(t, s, api.Entry{Attrs: []api.Attr{other, full}}, api.Entry{Attrs: []api.Attr{full, other}})
	checkNotTidy(t, s, api.Entry{Attrs: []api.Attr{full, other, attrOf("COUNT|1")}}, api.ErrLong, 2)
	checkNotTidy(t, s, api.Entry{Attrs: []api.Attr{full, other, attrOf("COUNT|1000")}}, api.ErrHave, 2)
	checkNotTidy(t, s, api.Entry{Attrs: []api.Attr{full, other, attrOf("COUNT|x")}}, api.ErrValue, 2)
	checkNotTidy(t, s, api.Entry{Attrs: []api.Attr{full, attrOf("1.2|1|x")}}, api.ErrLong, 1)
	halves := []api.Attr{{Desc: "1.2", Values: numbers(2000, api.MaxValues-1000)}, {Desc: "Count", Values: numbers(1000, 1000)}}
	checkTidy(t, s, api.Entry{Attrs: halves}, api.Entry{Attrs: []api.Attr{full}})
	checkNotTidy(t, s, api.Entry{Attrs: append(halves, attrOf("count|-1"))}, api.ErrLong, 2)
}

// bulk are values of that many bytes together, as few as can be, no two the same.
func bulk(bytes int) []string {
	var values []string
	for i := 0; bytes > 0; i++ {
		size := min(bytes, api.MaxText)
		values = append(values, string(rune('a'+i))+strings.Repeat("x", size-1))
		bytes -= size
	}
	return values
}

// P8.1: at most MaxBytes bytes of Canons, each once, and of values.
func TestTidyManyBytes(t *testing.T) {
	s := testSchema(t)
	one := func(attrs ...api.Attr) api.Entry { return api.Entry{Attrs: attrs} }
	full := api.Attr{Desc: "cn", Values: bulk(api.MaxBytes - len("cn"))}
	checkTidy(t, s, one(full), one(full))
	checkTidy(t, s, one(api.Attr{Desc: "commonName", Values: full.Values}), one(full))
	checkTidy(t, s, one(api.Attr{Desc: "cn", Values: full.Values[:9]}, api.Attr{Desc: "CommonName", Values: full.Values[9:]}), one(full))
	checkNotTidy(t, s, one(full, attrOf("photo|")), api.ErrLong, 1) // by its Canon alone
	checkNotTidy(t, s, one(attrOf("photo|"), full), api.ErrLong, 1)
	checkNotTidy(t, s, one(full, attrOf("cn|z")), api.ErrLong, 1)
	checkNotTidy(t, s, one(full, attrOf("cn|"+full.Values[3])), api.ErrHave, 1)
	checkNotTidy(t, s, one(full, attrOf("cn|\xff")), api.ErrValue, 1)
	checkNotTidy(t, s, one(api.Attr{Desc: "cn", Values: bulk(api.MaxBytes - len("cn") + 1)}), api.ErrLong, 0)
	less := api.Attr{Desc: "cn", Values: bulk(api.MaxBytes - len("cn") - len("photo;x") - 1)}
	checkTidy(t, s, one(attrOf("photo;X|1"), less), one(less, attrOf("photo;x|1")))
	checkNotTidy(t, s, one(attrOf("photo;X|12"), less), api.ErrLong, 1)
	checkNotTidy(t, s, one(less, attrOf("photo;X|1"), attrOf("photo;X|2")), api.ErrLong, 2)
	checkTidy(t, s, one(less, attrOf("photo;X|"), attrOf("photo;x;x|1")), one(less, attrOf("photo;x||1")))
}

// P8.1: a value, and a description, of just as many bytes as may be.
func TestTidyLongTexts(t *testing.T) {
	s := testSchema(t)
	value := "photo|" + strings.Repeat("x", api.MaxText)
	checkTidy(t, s, made(value), made(value))
	option := strings.Repeat("x", api.MaxText-len("cn;"))
	checkTidy(t, s, made("cn;"+option+"|a"), made("cn;"+option+"|a"))
	checkNotTidy(t, s, made("cn;x"+option+"|a"), api.ErrLong, 0)
	checkNotTidy(t, s, made("1.5;"+option+"|a"), api.ErrLong, 0) // its Canon is longer
}

// P8.1 as the chapter's words have it.
func TestTidyAsTheModel(t *testing.T) {
	s := testSchema(t)
	d := diceOf(s, 1)
	codes := map[api.Errno]int{}
	for range 30000 {
		e := d.entry()
		want, wantCode, wantAt := modelTidy(s, e)
		got, code, at := entry.Tidy(s, e)
		if code != wantCode || at != wantAt || !isSame(got, want) {
			t.Fatalf("Tidy(%s) = %s, %v, %d; want %s, %v, %d", shown(e), shown(got), code, at, shown(want), wantCode, wantAt)
		}
		codes[code]++
	}
	for _, code := range []api.Errno{api.OK, api.ErrName, api.ErrType, api.ErrValue, api.ErrHave, api.ErrLack} {
		if codes[code] < 100 {
			t.Errorf("%v came %d times", code, codes[code])
		}
	}
}
