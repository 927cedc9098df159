package word

import "strings"

const digits = "0123456789abcdef"

// Quote is a quoted text.
func Quote(s string) string {
	kinds := byteKinds()
	text := make([]byte, 0, len(s)+2)
	put := func(parts ...byte) { text = append(text, parts...) }
	put('"')
	for i := range len(s) {
		switch b := s[i]; kinds[b] {
		case coded:
			put('\\', 'x', digits[b>>4], digits[b&0xF])
		case feed:
			put('\\', 'n')
		case marked:
			put('\\', b)
		default:
			put(b)
		}
	}
	put('"')
	return string(text)
}

// Unquote are the bytes of a quoted text.
func Unquote(s string) (string, bool) {
	last := len(s) - 1
	if last < 1 || s[0] != '"' || s[last] != '"' {
		return "", false
	}
	kinds := byteKinds()
	text := make([]byte, 0, last)
	for i := 1; i < last; {
		b, n := unit(s[i:last], &kinds)
		if n == 0 {
			return "", false
		}
		text = append(text, b)
		i += n
	}
	return string(text), true
}

// unit is the byte that a part of a quoted text begins with, and how many bytes it is written in; 0 of them, if Quote would not write it so.
func unit(s string, kinds *[256]uint8) (byte, int) {
	switch {
	case s[0] != '\\':
		if kinds[s[0]] >= sign {
			return s[0], 1
		}
	case len(s) > 1 && s[1] == 'n':
		return '\n', 2
	case len(s) > 1 && kinds[s[1]] == marked:
		return s[1], 2
	case len(s) > 3 && s[1] == 'x':
		high, low := strings.IndexByte(digits, s[2]), strings.IndexByte(digits, s[3])
		if high < 0 || low < 0 {
			return 0, 0
		}
		if b := byte(high<<4 | low); kinds[b] == coded {
			return b, 4
		}
	}
	return 0, 0
}
