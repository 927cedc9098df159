package markup

import (
	"strconv"
	"strings"

	"tollgate/api"
)

const (
	mostDecimals = 7 // digits of a reference
	mostHexes    = 6
)

// reader goes through a text, and knows at which place it is.
type reader struct {
	text  string
	at    int
	line  int // from 1 on
	begin int // of the line
}

// name is a name as it is written; its prefix may be none.
type name struct{ prefix, local string }

// here is the place at which the reader is.
func (r *reader) here() api.Pos {
	return api.Pos{Line: r.line, Col: r.at - r.begin + 1}
}

// over says whether the text ends here.
func (r *reader) over() bool { return r.at == len(r.text) }

// sees says whether a sign stands here.
func (r *reader) sees(sign string) bool {
	return strings.HasPrefix(r.text[r.at:], sign)
}

// take goes past a sign, if it stands here.
func (r *reader) take(sign string) bool {
	if !r.sees(sign) {
		return false
	}
	r.pass(len(sign))
	return true
}

// need goes past a sign, which must stand here.
func (r *reader) need(sign string) {
	if !r.take(sign) {
		r.wrong()
	}
}

// pass goes past bytes, and is told what they are.
func (r *reader) pass(n int) string {
	passed := r.text[r.at : r.at+n]
	for _, b := range []byte(passed) {
		r.at++
		if b == '\n' {
			r.line++
			r.begin = r.at
		}
	}
	return passed
}

// wrong is what a reader does where another byte should stand, or one more.
func (r *reader) wrong() {
	if r.over() {
		leave(r.here(), api.ErrOpen)
	}
	leave(r.here(), api.ErrTag)
}

// char reads a character.
func (r *reader) char() string {
	n := size(r.text[r.at:])
	if n == 0 {
		r.wrong()
	}
	return r.pass(n)
}

// blank reads a blank, if there is one.
func (r *reader) blank() bool {
	return r.take(" ") || r.take("\t") || r.take("\n") || r.take("\r")
}

// blanks reads blanks, and says whether there were any.
func (r *reader) blanks() bool {
	from := r.at
	for r.blank() {
	}
	return r.at > from
}

// comment reads a comment behind its begin.
func (r *reader) comment() {
	for !r.take("-->") {
		if r.sees("--") {
			leave(r.here(), api.ErrTag)
		}
		r.char()
	}
}

// cdata reads characters that stand for themselves, behind their begin.
func (r *reader) cdata() string {
	from := r.at
	for !r.sees("]]>") {
		r.char()
	}
	inside := r.text[from:r.at]
	r.need("]]>")
	return inside
}

// named says whether a name begins here.
func (r *reader) named() bool {
	return !r.over() && begins(r.text[r.at])
}

// name reads a name.
func (r *reader) name() name {
	first := r.part()
	if !r.take(":") {
		return name{local: first}
	}
	return name{prefix: first, local: r.part()}
}

// part reads a part of a name.
func (r *reader) part() string {
	if !r.named() {
		r.wrong()
	}
	place, n := r.here(), 1
	for r.at+n < len(r.text) && follows(r.text[r.at+n]) {
		n++
	}
	if n > api.MaxName {
		leave(place, api.ErrFull)
	}
	return r.pass(n)
}

// begins says whether a byte may begin a part of a name.
func begins(b byte) bool {
	return 'a' <= b && b <= 'z' || 'A' <= b && b <= 'Z' || b == '_'
}

// follows says whether a byte may stand in a part of a name behind its first one.
func follows(b byte) bool {
	return begins(b) || '0' <= b && b <= '9' || b == '-' || b == '.'
}

// reference reads a reference, and is told the character for which it stands.
func (r *reader) reference() string {
	place := r.here()
	sign, _, closed := strings.Cut(r.text[r.at:], ";")
	c, ok := meant(sign)
	if !closed || !ok {
		leave(place, api.ErrEntity)
	}
	r.pass(len(sign))
	r.need(";")
	return string(c)
}

// meant is the character for which a reference stands; it is handed in without its ;.
func meant(sign string) (rune, bool) {
	switch sign {
	case "&lt":
		return '<', true
	case "&gt":
		return '>', true
	case "&amp":
		return '&', true
	case "&quot":
		return '"', true
	case "&apos":
		return '\'', true
	}
	if digits, ok := strings.CutPrefix(sign, "&#x"); ok {
		return numbered(digits, 16, mostHexes)
	}
	if digits, ok := strings.CutPrefix(sign, "&#"); ok {
		return numbered(digits, 10, mostDecimals)
	}
	return 0, false
}

// numbered is the character of a number.
func numbered(digits string, base, most int) (rune, bool) {
	// Asked ahead of all else, so that the number is none that a rune does not hold.
	if len(digits) > most {
		return 0, false
	}
	n, err := strconv.ParseUint(digits, base, 32)
	return rune(n), err == nil && isChar(rune(n))
}
