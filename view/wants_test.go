package view_test

import (
	"slices"
	"strings"
	"testing"

	"roster/api"
)

// P23.2: without words, and with * anywhere, all is wanted, whatever it is.
func TestAllIsWanted(t *testing.T) {
	s := testSchema(t)
	descs := []string{"cn", "name;x", "zz", "", "*", "1.1", "c n", "cn;", strings.Repeat("x", api.MaxText+1)}
	for _, wanted := range [][]string{nil, {}, {"*"}, {"*", "*"}, {"*", "1.1"}, {"1.1", "*"}, {"cn", "*", "sn"}, {"", "zz", "*"}} {
		wants(t, s, wanted, true, descs...)
	}
}

// P23.2: words that are neither * nor a description of the schema want nothing, nor do they by themselves what is called so.
func TestWordsThatWantNothing(t *testing.T) {
	s := testSchema(t)
	descs := []string{"cn", "CN;x", "name", "nick", "sn", "age", "photo", "objectClass"}
	options := ";a;b;c;d;e;f;g;h;i"
	words := []string{"1.1", "", "zz", "zz;x", "+", "**", " *", "* ", "*;x", "c n", " cn", "cn ", "cn;", ";x", "cn;;x", "cn;_", "2.5.4.03", "2.5.4.", "2.5.4.99", "person", "2.5.6.6", "caseIgnoreMatch", "cn" + options, "cn" + strings.Repeat(";x", api.MaxText), strings.Repeat("x", api.MaxText+1), "\xff", "cn*", "@person"}
	for _, word := range words {
		wants(t, s, []string{word}, false, descs...)
		wants(t, s, []string{word}, false, word, "")
		wants(t, s, []string{word, "1.1"}, false, word, "1.1")
		wants(t, s, []string{word, "cn"}, true, "cn", "CN;x", "nick")
		wants(t, s, []string{"cn", word}, false, "name", "sn", "zz", word)
		wants(t, s, []string{word, "*"}, true, word, "cn")
	}
	wants(t, s, words, false, descs...)
	wants(t, s, words, false, words...)
	wants(t, s, append(words, "name"), true, "cn", "sn", "name;x")
}

// P23.2: a word wants its type by whatever name, and those that lie below it.
func TestTypes(t *testing.T) {
	s := testSchema(t)
	cns := []string{"cn", "CN", "commonName", "COMMONNAME", "2.5.4.3"}
	nicks := []string{"nick", "shortName", "SHORTNAME", "petname", "1.2"}
	names := []string{"name", "Name", "2.5.4.41"}
	sns := []string{"sn", "SurName", "2.5.4.4"}
	others := []string{"age", "1.3", "photo", "objectClass"}
	for _, word := range cns {
		wants(t, s, []string{word}, true, slices.Concat(cns, nicks)...)
		wants(t, s, []string{word}, false, slices.Concat(names, sns, others)...)
	}
	for _, word := range nicks {
		wants(t, s, []string{word}, true, nicks...)
		wants(t, s, []string{word}, false, slices.Concat(cns, names, sns, others)...)
	}
	for _, word := range names {
		wants(t, s, []string{word}, true, slices.Concat(names, cns, nicks, sns)...)
		wants(t, s, []string{word}, false, others...)
	}
	wants(t, s, []string{"age", "nick"}, true, "AGE", "shortName")
	wants(t, s, []string{"age", "nick"}, false, "cn", "photo")
	wants(t, s, []string{"photo", "age", "cn", "photo"}, true, "photo", "age", "cn", "nick")
}

// P23.2: a word wants what has all its options, in whatever order and letters, each as often as it likes.
func TestOptions(t *testing.T) {
	s := testSchema(t)
	wants(t, s, []string{"cn"}, true, "cn", "cn;x", "commonName;X;y", "nick;lang-en")
	wants(t, s, []string{"cn;x"}, true, "cn;x", "CN;X", "2.5.4.3;y;x", "cn;X;x;X", "nick;a;x;z")
	wants(t, s, []string{"cn;x"}, false, "cn", "cn;y", "cn;xx", "cn;x-", "name;x", "sn;x", "nick;y")
	for _, word := range []string{"cn;x;y", "cn;y;x", "CN;Y;X", "commonName;x;Y;x;y;y"} {
		wants(t, s, []string{word}, true, "cn;x;y", "cn;Y;X", "nick;z;y;a;x")
		wants(t, s, []string{word}, false, "cn", "cn;x", "cn;y;z", "cn;x;z", "name;x;y")
	}
	wants(t, s, []string{"cn;x", "cn;y"}, true, "cn;x", "cn;y", "cn;y;x")
	wants(t, s, []string{"cn;x", "cn;y"}, false, "cn", "cn;z")
	wants(t, s, []string{"cn;x", "sn"}, false, "cn;y", "name", "cn")
	eight := ";a;b;c;d;e;f;g;h"
	wants(t, s, []string{"cn" + eight}, true, "nick"+strings.ToUpper(eight)+eight)
	wants(t, s, []string{"cn;h"}, true, "cn"+eight)
	wants(t, s, []string{"cn" + eight}, false, "cn"+eight+";i", "cn"+eight[2:])
	wants(t, s, []string{"cn"}, false, "cn"+eight+";i", "cn;", "cn;_")
}

// R1: without a schema nothing is wanted.
func TestNilWants(t *testing.T) {
	for _, wanted := range [][]string{nil, {}, {"*"}, {"cn"}, {"1.1"}, {""}} {
		wants(t, nil, wanted, false, "cn", "", "*", "zz")
	}
}

// A schema may have a type with the Oid 1.1: then that is a description of it, as any other one.
func TestTypeOfThatOid(t *testing.T) {
	plain := plainSchema()
	plain.Types = append(plain.Types, api.Type{Oid: "1.1", Names: []string{"odd"}})
	s := schemaOf(t, plain)
	wants(t, s, []string{"1.1"}, true, "odd", "1.1;x")
	wants(t, s, []string{"1.1"}, false, "cn", "name")
}
