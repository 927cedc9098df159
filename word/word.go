// Package word is layer 1: names, numbers, characters, quoted texts; see shared/doc/01-word.md.
package word

import "tollgate/api"

// Name says whether a text is a name.
func Name(s string) bool {
	if len(s) < 1 || len(s) > api.MaxName {
		return false
	}
	kinds := byteKinds()
	for i := range len(s) {
		if kinds[s[i]] < inner {
			return false
		}
	}
	return kinds[s[0]] == letter
}
