package word_test

import (
	"strings"
	"testing"

	"tollgate/api"
	"tollgate/word"
)

const (
	letters = "abcdefghijklmnopqrstuvwxyzABCDEFGHIJKLMNOPQRSTUVWXYZ"
	inner   = letters + "0123456789-_."
)

// P1.1, example 1.
func TestNameExamples(t *testing.T) {
	for s, want := range map[string]bool{
		"a": true, "A-1._": true, "": false, "1a": false, "a b": false,
		strings.Repeat("a", 32): true, strings.Repeat("a", 33): false,
		strings.Repeat("a", 31) + "9": true, strings.Repeat("a", 32) + "9": false,
		"Z": true, "a..": true, "-a": false, "_a": false, ".a": false, " a": false, "a ": false,
		"a\x00": false, "a\n": false, "a\xc3\xa9": false, "\xc3\xa9": false, "a/b": false, "a:b": false,
		strings.Repeat("a", 1<<20): false,
	} {
		if word.Name(s) != want {
			t.Errorf("Name(%.40q) is not %v", s, want)
		}
	}
}

// P1.1, P1.6: each byte, as the first one, as a further one, as the last one that there is room for.
func TestNameBytes(t *testing.T) {
	full := strings.Repeat("b", api.MaxName-1)
	for i := range 256 {
		s := string([]byte{byte(i)})
		first, further := strings.Contains(letters, s), strings.Contains(inner, s)
		if word.Name(s) != first {
			t.Errorf("Name(%q) is not %v", s, first)
		}
		if word.Name(s+"a") != first {
			t.Errorf("Name(%q) is not %v", s+"a", first)
		}
		for _, name := range []string{"a" + s, "a" + s + "a", full + s, "a" + s + full[1:]} {
			if word.Name(name) != further {
				t.Errorf("Name(%q) is not %v", name, further)
			}
		}
	}
}

// P1.6: a name and more bytes that may stand are a name, as long as there is room.
func TestNameRoom(t *testing.T) {
	for n := range 2 * len(inner) {
		s := "q" + strings.Repeat(inner, 3)[:n]
		if want := len(s) <= api.MaxName; word.Name(s) != want {
			t.Errorf("Name of %d bytes is not %v", len(s), want)
		}
	}
	for i := range len(inner) {
		if s := "q" + inner[i:i+1]; !word.Name(s) || !word.Name(s+s) {
			t.Errorf("Name(%q) is false", s)
		}
	}
}

// P1.6: what is no name is none with anything that may not stand put in; neither is what is one.
func TestNamePutIn(t *testing.T) {
	for _, s := range []string{"", "1a", "a b", ".a", "a-", "abc", strings.Repeat("a", 33)} {
		for i := range len(s) + 1 {
			for _, in := range []string{" ", "\t", "/", "\xe9", "\x00", "@", "[", "`", "{", ",", ":"} {
				if name := s[:i] + in + s[i:]; word.Name(name) {
					t.Errorf("Name(%q) is true", name)
				}
			}
		}
	}
}
