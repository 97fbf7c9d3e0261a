package octet_test

import (
	"strings"
	"testing"
	"unicode/utf8"

	"roster/api"
	"roster/octet"
)

func TestEscapeExamples(t *testing.T) {
	if s := octet.Escape(`a(*)\b`); s != `a\28\2a\29\5cb` {
		t.Errorf("Escape = %q", s)
	}
	if s := octet.Escape("\x00\xc3\xa9\xff"); s != "\\00\xc3\xa9\\ff" {
		t.Errorf("Escape = %q", s)
	}
	if s, e := octet.Unescape(`\2A\2a`); s != "**" || e != api.OK {
		t.Errorf("Unescape = %q, %v", s, e)
	}
	for bad, want := range map[string]api.Errno{"a*": api.ErrEscape, `\4`: api.ErrHex, "\xc3": api.ErrUTF, `\zz*`: api.ErrHex} {
		s, e := octet.Unescape(bad)
		refused(t, "Unescape", bad, s, e, want)
	}
}

func TestEscapeOfNothing(t *testing.T) {
	if s := octet.Escape(""); s != "" {
		t.Errorf("Escape = %q", s)
	}
	if s, e := octet.Unescape(""); s != "" || e != api.OK {
		t.Errorf("Unescape = %q, %v", s, e)
	}
}

func TestEscapeOfEachByte(t *testing.T) {
	for b := range 256 {
		s := string([]byte{byte(b)})
		want := s
		if strings.Contains("\x00()*\\", s) || b >= 0x80 {
			want = `\` + octet.Hex(s)
		}
		if got := octet.Escape(s); got != want {
			t.Errorf("Escape(%q) = %q", s, got)
		}
		if got := octet.Escape("x" + s + "y"); got != "x"+want+"y" {
			t.Errorf("Escape(%q between letters) = %q", s, got)
		}
	}
}

func TestEscapeOfBytesThatStandAlone(t *testing.T) {
	for s, want := range map[string]string{
		"\xc3é":            `\c3é`,
		"\xe2\x82é":        `\e2\82é`,
		"\xf0\x9f\x98😀":    `\f0\9f\98😀`,
		"é\xa9":            `é\a9`,
		"\xe2\x82(":        `\e2\82\28`,
		"\xed\xa0\x80":     `\ed\a0\80`,
		"\xe0\x9f\xbf":     `\e0\9f\bf`,
		"\xf4\x90\x80\x80": `\f4\90\80\80`,
		"\xc0\xaf":         `\c0\af`,
		"\uFFFD\xef":       "\uFFFD" + `\ef`,
		"\xef\xbf\uFFFD":   `\ef\bf` + "\uFFFD",
	} {
		if got := octet.Escape(s); got != want {
			t.Errorf("Escape(%q) = %q, want %q", s, got, want)
		}
	}
}

// escapedBy is Escape by the library's reading of characters.
func escapedBy(s string) string {
	var out strings.Builder
	for len(s) > 0 {
		r, n := utf8.DecodeRuneInString(s)
		if r == utf8.RuneError && n == 1 || strings.ContainsRune("\x00()*\\", r) {
			out.WriteString("\\" + octet.Hex(s[:1]))
		} else {
			out.WriteString(s[:n])
		}
		s = s[n:]
	}
	return out.String()
}

func TestEscapeOfRowsOnePastTheirEnds(t *testing.T) {
	for _, row := range rows {
		for _, c := range corners(row) {
			for place := range row {
				for _, b := range []byte{row[place][0] - 1, row[place][1] + 1} {
					s := c[:place] + string([]byte{b}) + c[place+1:]
					if got := octet.Escape(s); got != escapedBy(s) {
						t.Errorf("Escape(% x) = %q, want %q", s, got, escapedBy(s))
					}
				}
			}
		}
	}
}

func TestEscapeOfManyTexts(t *testing.T) {
	for _, s := range texts() {
		if got := octet.Escape(s); got != escapedBy(s) {
			t.Errorf("Escape(%q) = %q, want %q", s, got, escapedBy(s))
		}
	}
}

func TestEscapeLeavesCharacters(t *testing.T) {
	for _, row := range rows[1:] {
		for _, c := range corners(row) {
			if got := octet.Escape("a" + c); got != "a"+c {
				t.Errorf("Escape(% x) = %q", c, got)
			}
			if got, e := octet.Unescape(c + "a"); got != c+"a" || e != api.OK {
				t.Errorf("Unescape(% x) = %q, %v", c, got, e)
			}
		}
	}
}

func TestUnescapeOfAllPairsBehindTheSign(t *testing.T) {
	const small, great = "0123456789abcdef", "0123456789ABCDEF"
	digit := func(b int) int { return max(strings.IndexByte(small, byte(b)), strings.IndexByte(great, byte(b))) }
	for a := range 256 {
		for b := range 256 {
			in := "x\\" + string([]byte{byte(a), byte(b)}) + "2a"
			s, e := octet.Unescape(in)
			if digit(a) < 0 || digit(b) < 0 {
				refused(t, "Unescape", in, s, e, api.ErrHex)
			} else if s != "x"+string([]byte{byte(16*digit(a) + digit(b))})+"2a" || e != api.OK {
				t.Errorf("Unescape(%q) = %q, %v", in, s, e)
			}
		}
	}
}

func TestUnescapeOfEachByte(t *testing.T) {
	for b := range 256 {
		s := string([]byte{byte(b)})
		want := api.OK
		switch {
		case s == `\`:
			want = api.ErrHex
		case strings.Contains("\x00()*", s):
			want = api.ErrEscape
		case b >= 0x80:
			want = api.ErrUTF
		}
		for _, in := range []string{s, "é" + s, s + "y", `\00` + s} {
			got, e := octet.Unescape(in)
			if want != api.OK {
				refused(t, "Unescape", in, got, e, want)
			} else if e != api.OK || !strings.Contains(got, s) {
				t.Errorf("Unescape(%q) = %q, %v", in, got, e)
			}
		}
	}
}

func TestUnescapeWhereTheTextEnds(t *testing.T) {
	for _, bad := range []string{`\`, `\2`, `a\`, `a\f`, `\2a\`, `\2a\2`, `\\`, `\\5c`, `\2\2a`, `\2é`, `\é`, `\2*`, `\*`, `\ 2a`, `\0x`} {
		s, e := octet.Unescape(bad)
		refused(t, "Unescape", bad, s, e, api.ErrHex)
	}
}

// A byte that an escape says is no part of a character with the bytes behind it.
func TestUnescapeAlongsideBytes(t *testing.T) {
	for _, bad := range []string{"\\c3\xa9", "\xc3\\a9", "\xc3é", "\xe2\x82é", "\xed\xa0\x80", "\xc0\xa8", "\xf4\x90\x80\x80", "\xef\xbf"} {
		s, e := octet.Unescape(bad)
		refused(t, "Unescape", bad, s, e, api.ErrUTF)
	}
	for in, want := range map[string]string{`\c3\a9`: "é", `\C3\a9`: "é", "\uFFFD": "\uFFFD", `\28\29\00\5C5c`: "()\x00\\5c", `\4a4a`: "J4a", `é\ffé`: "é\xffé", `a/=&|!<>~`: "a/=&|!<>~"} {
		if got, e := octet.Unescape(in); got != want || e != api.OK {
			t.Errorf("Unescape(%q) = %q, %v", in, got, e)
		}
	}
}

func TestUnescapeTellsTheFirstWrongPlace(t *testing.T) {
	wrong := []struct {
		text string
		want api.Errno
	}{
		{`\zz`, api.ErrHex}, {`\2`, api.ErrHex}, {`\`, api.ErrHex},
		{"\x00", api.ErrEscape}, {"(", api.ErrEscape}, {")", api.ErrEscape}, {"*", api.ErrEscape},
		{"\xff", api.ErrUTF}, {"\xc3", api.ErrUTF}, {"\xc1", api.ErrUTF},
	}
	for _, first := range wrong {
		for _, second := range wrong {
			for _, good := range []string{"g", "é", `\2a`} {
				for _, between := range []string{"", "g"} {
					in := good + first.text + between + second.text
					s, e := octet.Unescape(in)
					refused(t, "Unescape", in, s, e, first.want)
				}
			}
		}
	}
}
