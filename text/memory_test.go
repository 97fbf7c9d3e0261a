package text_test

import (
	"fmt"
	"sync"
	"testing"

	"roster/api"
	"roster/text"
)

// spoil writes over all of a filter's lists, the room behind their ends too.
func spoil(f api.Filter) {
	for _, kid := range f.Kids {
		spoil(kid)
	}
	kids, middles := f.Kids[:cap(f.Kids)], f.Middles[:cap(f.Middles)]
	for i := range kids {
		kids[i] = api.Filter{Kind: 77, Desc: "spoilt"}
	}
	for i := range middles {
		middles[i] = "spoilt"
	}
}

// whole shows a filter with the room behind the ends of its lists.
func whole(f api.Filter) string {
	out := fmt.Sprintf("%d %q %q %q %q %q %d of %q", f.Kind, f.Desc, f.Value, f.Start, f.End, f.Rule, len(f.Middles), f.Middles[:cap(f.Middles)])
	for _, kid := range f.Kids[:cap(f.Kids)] {
		out += fmt.Sprintf(" %d(%s)", len(f.Kids), whole(kid))
	}
	return out
}

func roomy() api.Filter {
	mark := api.Filter{Kind: 88, Desc: "mark"}
	room := func(kids ...api.Filter) []api.Filter { return append(kids, mark, mark)[:len(kids)] }
	piece := api.Filter{Kind: api.FPart, Desc: "cn", Middles: append([]string{"a", "b"}, "mark", "mark")[:2]}
	empty := equal("CN;x", "A")
	empty.Kids, empty.Middles = room(), append([]string{}, "mark")[:0]
	return api.Filter{Kind: api.FAnd, Kids: room(api.Filter{Kind: api.FNot, Kids: room(piece)}, empty, piece)}
}

// R3: what is handed to Print is not changed, nor is the room behind its ends; lists without anything count as none (R6).
func TestPrintChangesNothing(t *testing.T) {
	f := roomy()
	checkPrint(t, f, "(&(!(cn=*a*b*))(CN;x=A)(cn=*a*b*))")
	if got, want := whole(f), whole(roomy()); got != want {
		t.Errorf("%s; want %s", got, want)
	}
}

// R3: what Parse hands out is new; no two of its lists share memory, in the room behind their ends neither.
func TestParseSharesNothing(t *testing.T) {
	s := "(&(a=x*y*z*w*)(|(a=x*y*z*w*)(!(a=x*y*z*w*))(b=c))(!(a=*x*y*))(a=x*y*z*w*))"
	first, err := text.Parse(s)
	if err != nil {
		t.Fatal(err)
	}
	want, _ := modelFilter(s)
	for at := range first.Kids {
		f, _ := text.Parse(s)
		spoil(f.Kids[at])
		for i, kid := range f.Kids {
			if i != at && !isSame(kid, want.Kids[i]) {
				t.Errorf("kid %d is %s after kid %d was spoilt", i, shown(kid), at)
			}
		}
		_ = append(f.Kids, have("x"))
		_ = append(f.Kids[1].Kids, have("x"))
	}
	spoil(first)
	checkTaken(t, s, want)
}

// R2: nothing is left behind, and all of it may be done at the same time.
func TestGoroutines(t *testing.T) {
	d := diceOf(12)
	var filters []api.Filter
	var texts []string
	for range 200 {
		f := d.filter(4)
		filters, texts = append(filters, f), append(texts, modelPrint(f))
	}
	var all sync.WaitGroup
	for range 8 {
		all.Go(func() {
			for i, f := range filters {
				checkTaken(t, texts[i], f)
				checkPrint(t, f, texts[i])
				checkFault(t, texts[i]+"x", api.Fault{Code: api.ErrSyntax, At: len(texts[i]), Word: "x"})
				text.Desc(texts[i])
			}
		})
	}
	all.Wait()
}
