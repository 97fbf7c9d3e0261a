package name

import (
	"cmp"
	"slices"
	"strconv"
	"strings"

	"roster/api"
	"roster/prep"
	"roster/schema"
)

// keyer makes keys by a schema.
type keyer struct {
	schema  *schema.Schema
	byRule  map[int8]func(t api.Type, value string) (string, bool)
	classes []api.Class // the schema's, from the first time on that one is asked for
}

// keyed is a type's place and a value's key under it.
type keyed struct {
	place int
	key   string
}

// Key: P6.3.
func Key(s *schema.Schema, n api.Name) (string, api.Errno) {
	if s == nil {
		return "", api.ErrNil
	}
	if _, e := Print(n); e != api.OK {
		return "", e
	}
	return newKeyer(s).nameKey(n)
}

func newKeyer(s *schema.Schema) *keyer {
	k := &keyer{schema: s}
	k.byRule = map[int8]func(t api.Type, value string) (string, bool){
		api.RuleNone:   k.itself,
		api.RuleFold:   k.byForm,
		api.RuleExact:  k.byForm,
		api.RuleDigits: k.byForm,
		api.RulePhone:  k.byForm,
		api.RuleNumber: k.byForm,
		api.RuleFlag:   k.byForm,
		api.RuleTime:   k.byForm,
		api.RuleBytes:  k.byForm,
		api.RuleName:   k.byName,
		api.RuleOid:    k.byOid,
	}
	return k
}

func (k *keyer) nameKey(n api.Name) (string, api.Errno) {
	var keys []string
	for _, part := range n.Rdns {
		key, e := k.partKey(part)
		if e != api.OK {
			return "", e
		}
		keys = append(keys, key)
	}
	slices.Reverse(keys)
	return strings.Join(keys, ""), api.OK
}

func (k *keyer) partKey(part api.Rdn) (string, api.Errno) {
	var pairs []keyed
	for _, ava := range part.Avas {
		place := k.schema.Type(ava.Type)
		if place < 0 {
			return "", api.ErrType
		}
		if slices.ContainsFunc(pairs, func(p keyed) bool { return p.place == place }) {
			return "", api.ErrTwice
		}
		t := k.schema.Full(place)
		key, ok := k.byRule[t.Equal](t, ava.Value)
		if !ok {
			return "", api.ErrValue
		}
		pairs = append(pairs, keyed{place, key})
	}
	slices.SortFunc(pairs, func(a, b keyed) int { return cmp.Compare(a.place, b.place) })
	return lay(pairs), api.OK
}

// lay writes each key once: it may hold those of names deep within names.
func lay(pairs []keyed) string {
	var out strings.Builder
	for m, p := range pairs {
		if m > 0 {
			out.WriteByte('+')
		}
		head := strconv.Itoa(p.place) + "=" + strconv.Itoa(len(p.key)) + ":"
		out.Grow(len(head) + len(p.key) + len(";"))
		out.WriteString(head)
		out.WriteString(p.key)
	}
	out.WriteByte(';')
	return out.String()
}

func (k *keyer) byForm(t api.Type, value string) (string, bool) {
	form, _ := schema.Form(t.Equal)
	return prep.Key(form, value)
}

// byName does not ask for Print's error anew: a name needs no more bytes by itself than within the value that tells it, which was printed already.
func (k *keyer) byName(_ api.Type, value string) (string, bool) {
	n, err := Parse(value)
	if err != nil {
		return "", false
	}
	key, e := k.nameKey(n)
	return key, e == api.OK
}

func (k *keyer) byOid(_ api.Type, value string) (string, bool) {
	key, ok := prep.Key(api.FormOid, value)
	if !ok {
		return "", false
	}
	if place := k.schema.Type(key); place >= 0 {
		return k.schema.Full(place).Oid, true
	}
	if place := k.schema.Class(key); place >= 0 {
		return k.class(place).Oid, true
	}
	return key, true
}

func (k *keyer) class(place int) api.Class {
	if k.classes == nil {
		k.classes = k.schema.Plain().Classes
	}
	return k.classes[place]
}

// itself is for types without a rule for equality: their values need not be brought into any form, but must fit.
func (k *keyer) itself(t api.Type, value string) (string, bool) {
	var fits bool
	if t.Syntax == api.SynName {
		_, fits = k.byName(t, value)
	} else {
		_, fits = prep.Key(forms[t.Syntax], value)
	}
	if !fits {
		return "", false
	}
	return value, true
}

// forms say which values fit a syntax.
var forms = [...]int8{
	api.SynText: api.FormExact, api.SynDigits: api.FormDigits, api.SynPhone: api.FormPhone, api.SynNumber: api.FormNumber,
	api.SynFlag: api.FormFlag, api.SynTime: api.FormTime, api.SynBytes: api.FormBytes, api.SynName: none, api.SynOid: api.FormOid,
}
