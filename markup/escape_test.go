package markup_test

import (
	"strings"
	"testing"

	"tollgate/markup"
)

// P8.2, example 3.
func TestEscapeExamples(t *testing.T) {
	for s, want := range map[string]string{
		"": "", "a<b": "a&lt;b", "<>&\"'": "&lt;&gt;&amp;&quot;'", "\t\n\r": "&#9;&#10;&#13;", "&lt;": "&amp;lt;", "]]>": "]]&gt;", " a ": " a ",
		"é€😀": "é€😀", "\u0085\u2028\ufffd\x7f": "\u0085\u2028\ufffd\x7f", "\r\n": "&#13;&#10;",
	} {
		if got, ok := markup.Escape(s); got != want || !ok {
			t.Errorf("Escape(%q): %q, %v", s, got, ok)
		}
	}
	long := strings.Repeat("&", 1<<17)
	if got, ok := markup.Escape(long); got != strings.Repeat("&amp;", 1<<17) || !ok {
		t.Errorf("Escape of a long text: %d bytes, %v", len(got), ok)
	}
}

// P8.2: what is not characters alone.
func TestEscapeNone(t *testing.T) {
	for _, s := range []string{
		"\x00", "\x08", "\x0b", "\x0c", "\x0e", "\x1f", "\x80", "\xff", "\xc3", "\xc3a", "\xc0\x80", "\xe2\x82", "\xed\xa0\x80", "\xed\xbf\xbf", "\ufffe", "\uffff", "\xf4\x90\x80\x80", "\xf0\x8f\xbf\xbf", "\xf8\x88\x80\x80\x80",
	} {
		for _, text := range []string{s, "a" + s, s + "a", "<é" + s + "&"} {
			if got, ok := markup.Escape(text); got != "" || ok {
				t.Errorf("Escape(%q): %q, %v", text, got, ok)
			}
		}
	}
}

// P8.2: each character by itself.
func TestEscapeAll(t *testing.T) {
	signs := map[int]string{'<': "&lt;", '>': "&gt;", '&': "&amp;", '"': "&quot;", 9: "&#9;", 10: "&#10;", 13: "&#13;"}
	for c := range 1114112 {
		if c >= 0xD800 && c <= 0xDFFF {
			continue
		}
		want, ok := signs[c]
		if !ok && char(c) {
			want = string(rune(c))
		}
		if got, ok := markup.Escape(string(rune(c))); got != want || ok != char(c) {
			t.Fatalf("Escape of the character %d: %q, %v", c, got, ok)
		}
	}
}
