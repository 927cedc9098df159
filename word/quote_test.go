package word_test

import (
	"fmt"
	"regexp"
	"strings"
	"testing"

	"tollgate/word"
)

// quoted tells which texts are quoted texts.
var quoted = regexp.MustCompile(`^"([ !#-\[\]-~]|\\["\\n]|\\x(0[0-9b-f]|1[0-9a-f]|7f|[89a-f][0-9a-f]))*"$`)

// P1.3, example 3.
func TestQuoteExamples(t *testing.T) {
	for s, want := range map[string]string{
		"": `""`, "a": `"a"`, "a\"\n\x00": `"a\"\n\x00"`, `\`: `"\\"`, `\n`: `"\\n"`, "\x1f ~\x7f\x80\xff": `"\x1f ~\x7f\x80\xff"`,
		"\t\r\v": `"\x09\x0d\x0b"`, "\u00e9": `"\xc3\xa9"`, "'`": "\"'`\"", `""`: `"\"\""`,
	} {
		if got := word.Quote(s); got != want {
			t.Errorf("Quote(%q): %s", s, got)
		}
		if got, ok := word.Unquote(want); got != s || !ok {
			t.Errorf("Unquote(%s): %q, %v", want, got, ok)
		}
	}
}

// P1.3: each byte, as the document tells it.
func TestQuoteBytes(t *testing.T) {
	for i := range 256 {
		b := byte(i)
		want := fmt.Sprintf(`\x%02x`, b)
		switch {
		case b == '"' || b == '\\':
			want = `\` + string(rune(b))
		case b == '\n':
			want = `\n`
		case b >= 0x20 && b <= 0x7E:
			want = string(rune(b))
		}
		s := string([]byte{b})
		if got := word.Quote(s + "-" + s); got != `"`+want+"-"+want+`"` {
			t.Errorf("Quote(%q): %s", s+"-"+s, got)
		}
		long := fmt.Sprintf(`"\x%02x"`, b)
		if got, ok := word.Unquote(long); ok != (long == `"`+want+`"`) || ok && got != s || !ok && got != "" {
			t.Errorf("Unquote(%s): %q, %v", long, got, ok)
		}
		if got, ok := word.Unquote(`"` + s + `"`); ok != (want == s) || ok && got != s || !ok && got != "" {
			t.Errorf("Unquote of the byte %02x itself: %q, %v", b, got, ok)
		}
		behind := b == '"' || b == '\\' || b == 'n'
		if _, ok := word.Unquote(`"\` + s + `"`); ok != behind {
			t.Errorf("Unquote of the byte %02x behind a \\: %v", b, ok)
		}
	}
}

// P1.3: texts that are no quoted texts.
func TestUnquoteWrong(t *testing.T) {
	for _, s := range []string{
		"", `"`, `a`, `"a`, `a"`, `'a'`, "`a`", `"a"b`, ` "a"`, `"a" `, `"a""`, `""a"`, `"""`, `"\"`, `"\\\"`, `"\q"`, `"\t"`, `"\0"`,
		`"\x41"`, `"\x0a"`, `"\x0A"`, `"\x0"`, `"\x"`, `"\x0g"`, `"\xg0"`, `"\x1F"`, `"\xFF"`, `"\X00"`, `"\x22"`, `"\x5c"`, `"\x00`, `\x00`, `"\u0000"`,
		"\"\n\"", "\"\x7f\"", "\"\xff\"", "\"\u00e9\"", "\"\x00\"",
	} {
		if got, ok := word.Unquote(s); got != "" || ok {
			t.Errorf("Unquote(%q): %q, %v", s, got, ok)
		}
	}
}

// P1.4: of all short texts just the quoted ones are read, and Quote writes them again.
func TestUnquoteShort(t *testing.T) {
	var try func(s string, room int)
	try = func(s string, room int) {
		got, ok := word.Unquote(s)
		if ok != quoted.MatchString(s) || ok && word.Quote(got) != s || !ok && got != "" {
			t.Errorf("Unquote(%q): %q, %v", s, got, ok)
		}
		if room == 0 {
			return
		}
		for _, c := range []string{`"`, `\`, "x", "n", "0", "8", "a", "A", " ", "\n", "\x80"} {
			try(s+c, room-1)
		}
	}
	try("", 5)
	for _, s := range []string{`"\x`, `"n\x`, `"\\`, `"\x80\`} {
		try(s, 4)
	}
}

// P1.4: Unquote undoes Quote; a quoted text is of bytes 20 to 7E alone, and no beginning of it, but itself, is one.
func TestUnquoteUndoesQuote(t *testing.T) {
	texts := []string{"", strings.Repeat("\\\"\n\x00\xffa", 1000)}
	for i := range 256 {
		for k := range 256 {
			texts = append(texts, string([]byte{byte(i), byte(k)}))
		}
	}
	for _, s := range texts {
		q := word.Quote(s)
		if got, ok := word.Unquote(q); got != s || !ok {
			t.Fatalf("Unquote(%s): %q, %v", q, got, ok)
		}
		if strings.ContainsFunc(q, func(r rune) bool { return r < 0x20 || r > 0x7E }) {
			t.Fatalf("Quote(%q): %s", s, q)
		}
		for i := range min(len(q), 100) {
			if _, ok := word.Unquote(q[:i]); ok {
				t.Fatalf("Unquote(%s): true", q[:i])
			}
		}
	}
}
