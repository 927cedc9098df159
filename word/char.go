package word

import "math/bits"

const (
	greatest  = 0x10FFFF // of the characters
	lowerGap  = 0xD800   // from here on to upperGap: no characters
	upperGap  = 0xDFFF
	moreBits  = 6    // bits of a character that a further byte has
	moreMask  = 0x3F // where they are
	moreMark  = 0x80 // what a further byte has above them
	mostBytes = 4    // of a character
)

// UTF8 says whether a text is UTF-8.
func UTF8(s string) bool {
	for i := 0; i < len(s); {
		_, n, ok := At(s, i)
		if !ok {
			return false
		}
		i += n
	}
	return true
}

// Char are a character's bytes.
func Char(c int) (string, bool) {
	// Asked ahead of the conversion, which would cut a greater number down to a character.
	if c < 0 || c > greatest {
		return "", false
	}
	char := rune(c)
	n := size(char)
	if n == 0 {
		return "", false
	}
	var b [mostBytes]byte
	for i := range n - 1 {
		b[n-1-i] = moreMark | byte(char&moreMask)
		char >>= moreBits
	}
	b[0] = firstMark(n) | byte(char)
	return string(b[:n]), true
}

// At is the character that begins at a place.
func At(s string, i int) (c int, n int, ok bool) {
	if i < 0 || i >= len(s) {
		return 0, 0, false
	}
	n = announced(s[i])
	if n == 0 || n > len(s)-i {
		return 0, 0, false
	}
	char := rune(s[i] &^ firstMark(n))
	for k := range n - 1 {
		b := s[i+1+k]
		if b&^moreMask != moreMark {
			return 0, 0, false
		}
		char = char<<moreBits | rune(b&moreMask)
	}
	// Bytes of the right shape may still be a number that is no character, or one that needs fewer of them.
	if size(char) != n {
		return 0, 0, false
	}
	return int(char), n, true
}

// size is how many bytes a character has; 0, if the number is none.
func size(char rune) int {
	switch {
	case char < 0, char > greatest, lowerGap <= char && char <= upperGap:
		return 0
	case char < 1<<7:
		return 1
	case char < 1<<11:
		return 2
	case char < 1<<16:
		return 3
	}
	return mostBytes
}

// announced is how many bytes a character has whose first byte is b; 0, if b is no first byte.
func announced(b byte) int {
	switch ones := bits.LeadingZeros8(^b); ones {
	case 0:
		return 1
	case 2, 3, mostBytes:
		return ones
	}
	return 0
}

// firstMark are the highest bits of the first byte of a character of n bytes: n ones, but none if it has one byte alone.
func firstMark(n int) byte {
	if n == 1 {
		return 0
	}
	return byte(0xFF << (8 - n))
}
