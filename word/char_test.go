package word_test

import (
	"strings"
	"testing"
	"unicode/utf8"

	"tollgate/word"
)

// P1.2, example 2.
func TestCharExamples(t *testing.T) {
	for c, want := range map[int]string{
		0: "\x00", 'a': "a", 127: "\x7f", 128: "\xc2\x80", 233: "\xc3\xa9", 2047: "\xdf\xbf", 2048: "\xe0\xa0\x80",
		55295: "\xed\x9f\xbf", 57344: "\xee\x80\x80", 65533: "\xef\xbf\xbd", 65535: "\xef\xbf\xbf",
		65536: "\xf0\x90\x80\x80", 1114111: "\xf4\x8f\xbf\xbf",
	} {
		if s, ok := word.Char(c); s != want || !ok {
			t.Errorf("Char(%d): %q, %v", c, s, ok)
		}
	}
}

// P1.2: numbers that are no characters, also those of which the lowest bits are one.
func TestCharNone(t *testing.T) {
	none := []int{-1, -1 << 31, -1 << 63, 1<<63 - 1, 1114112, 1 << 21, 1<<31 - 1, 1<<32 + 'a', 1<<33 + 233, -1<<32 + 'a', -128}
	for c := 55296; c <= 57343; c++ {
		none = append(none, c)
	}
	for _, c := range none {
		if s, ok := word.Char(c); s != "" || ok {
			t.Errorf("Char(%d): %q, %v", c, s, ok)
		}
	}
}

// P1.2, P1.4: each character's bytes, and At undoes Char, also within a text.
func TestCharAll(t *testing.T) {
	for c := range 1114112 {
		if c >= 55296 && c <= 57343 {
			continue
		}
		s, ok := word.Char(c)
		if !ok || s != string(rune(c)) {
			t.Fatalf("Char(%d): %q, %v", c, s, ok)
		}
		if d, n, ok := word.At(s, 0); d != c || n != len(s) || !ok {
			t.Fatalf("At(%q, 0): %d, %d, %v", s, d, n, ok)
		}
		text := "\u00e9" + s + s
		if d, n, ok := word.At(text, 2); d != c || n != len(s) || !ok {
			t.Fatalf("At(%q, 2): %d, %d, %v", text, d, n, ok)
		}
		if !word.UTF8(s) || !word.UTF8(text) {
			t.Fatalf("UTF8(%q) is false", text)
		}
		if word.UTF8(s[:len(s)-1]) != (len(s) == 1) {
			t.Fatalf("UTF8(%q) is true", s[:len(s)-1])
		}
	}
}

// P1.2, example 2.
func TestAtExamples(t *testing.T) {
	for _, x := range []struct {
		s       string
		i, c, n int
		ok      bool
	}{
		{"a\u00e9", 0, 'a', 1, true}, {"a\u00e9", 1, 233, 2, true}, {"a\u00e9", 2, 0, 0, false}, {"a\u00e9", 3, 0, 0, false},
		{"a", -1, 0, 0, false}, {"a", -1 << 63, 0, 0, false}, {"a", 1<<63 - 1, 0, 0, false}, {"", 0, 0, 0, false},
		{"\x00", 0, 0, 1, true}, {"\xff\u20ac", 0, 0, 0, false}, {"\xff\u20ac", 1, 8364, 3, true}, {"\xff\u20ac", 3, 0, 0, false},
		{"\U0001f600\xff", 0, 128512, 4, true}, {"\xf0\x9f\x98", 0, 0, 0, false}, {"\xef\xbf\xbd", 0, 65533, 3, true},
		{"\xc3a", 0, 0, 0, false}, {"\xc3\xc3", 0, 0, 0, false}, {"\xc0\x80", 0, 0, 0, false}, {"\xed\xa0\x80", 0, 0, 0, false},
	} {
		if c, n, ok := word.At(x.s, x.i); c != x.c || n != x.n || ok != x.ok {
			t.Errorf("At(%q, %d): %d, %d, %v", x.s, x.i, c, n, ok)
		}
	}
}

// P1.2, example 2.
func TestUTF8Examples(t *testing.T) {
	for s, want := range map[string]bool{
		"": true, "a": true, "a\u00e9\u20ac\U0001f600": true, "\x00": true, "\xef\xbf\xbd": true,
		"\xc0\x80": false, "\xc1\xbf": false, "\xe0\x80\x80": false, "\xe0\x9f\xbf": false, "\xf0\x80\x80\x80": false, "\xf0\x8f\xbf\xbf": false,
		"\xed\xa0\x80": false, "\xed\xbf\xbf": false, "\xf4\x90\x80\x80": false, "\xf5\x80\x80\x80": false, "\xf8\x88\x80\x80\x80": false,
		"\xe9": false, "a\xe9": false, "\xe9a": false, "\x80": false, "\xbf": false, "\xfe": false, "\xff": false, "a\xffa": false,
		strings.Repeat("a", 1<<16) + "\x80": false, strings.Repeat("\u20ac", 1<<16): true,
	} {
		if word.UTF8(s) != want {
			t.Errorf("UTF8(%.20q) is not %v", s, want)
		}
	}
}

// walk goes from place to place by At, and says whether it comes to the end.
func walk(s string) bool {
	i := 0
	for i < len(s) {
		_, n, ok := word.At(s, i)
		if !ok {
			return false
		}
		i += n
	}
	return i == len(s)
}

// P1.2, P1.5: of all texts of up to three bytes, and of many of four, just those are UTF-8 that the library says are.
func TestUTF8All(t *testing.T) {
	var b [4]byte
	check := func(n int) {
		if s := string(b[:n]); word.UTF8(s) != utf8.ValidString(s) || walk(s) != utf8.ValidString(s) {
			t.Fatalf("UTF8(%q) is not %v", s, utf8.ValidString(s))
		}
	}
	edges := []byte{0x00, 0x7F, 0x80, 0x8F, 0x90, 0x9F, 0xA0, 0xBF, 0xC0, 0xFF}
	for i := range 256 {
		b[0] = byte(i)
		check(1)
		for k := range 256 {
			b[1] = byte(k)
			check(2)
			for m := range 256 {
				b[2] = byte(m)
				check(3)
			}
			for _, x := range edges {
				for _, y := range edges {
					b[2], b[3] = x, y
					check(4)
				}
			}
		}
	}
}

// P1.5: two texts that are UTF-8 are so together; cut where a character begins they stay so, cut elsewhere not.
func TestUTF8Cut(t *testing.T) {
	texts := []string{"", "a", "\u00e9", "a\u20acb", "\U0001f600\u00e9", "\x00\U0010ffff", "\ud7ff\ue000"}
	for _, a := range texts {
		for _, b := range texts {
			s := a + b
			if !word.UTF8(s) {
				t.Errorf("UTF8(%q) is false", s)
			}
			for i := range len(s) + 1 {
				whole := i == len(s) || utf8.RuneStart(s[i])
				if word.UTF8(s[:i]) != whole || word.UTF8(s[i:]) != whole {
					t.Errorf("%q, cut at %d, is not %v", s, i, whole)
				}
				if _, _, ok := word.At(s, i); ok != (whole && i < len(s)) {
					t.Errorf("At(%q, %d): %v", s, i, ok)
				}
			}
		}
	}
}
