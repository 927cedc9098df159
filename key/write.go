package key

import (
	"strings"

	"tollgate/api"
)

const (
	numberMark = "\x01" // begins a key's number
	textMark   = "\x02" // begins a key's text
	zero       = "\x00\xff"
	textEnd    = "\x00\x00"
	signBit    = 1 << 63
	countBits  = 7 // bits of a count that one byte has
	countMore  = 1 << countBits
)

// letter is where bytes go that are wanted.
type letter struct{ all strings.Builder }

func (t *letter) add(s string) { t.all.WriteString(s) }

// length is where bytes go that are counted only.
type length struct{ bytes int }

func (t *length) add(s string) { t.bytes += len(s) }

// write puts a part's bytes.
func (p Part) write(put func(string)) {
	if !p.Text {
		put(numberMark)
		put(eight(uint64(p.N) ^ signBit))
		return
	}
	put(textMark)
	put(strings.ReplaceAll(p.Say, "\x00", zero))
	put(textEnd)
}

// eight are a number's bytes, the highest first.
func eight(n uint64) string {
	var b [8]byte
	for i := range len(b) {
		b[len(b)-1-i] = byte(n)
		n >>= 8
	}
	return string(b[:])
}

// writeAll puts the bytes of items that stand in lists of that depth, up to the first one that may not be.
func writeAll(l []Item, deep int, put func(string)) api.Errno {
	for _, x := range l {
		if !x.mayBe() {
			return api.ErrArg
		}
		put(string([]byte{x.Kind}))
		switch x.Kind {
		case Number:
			put(count(folded(x.N)))
		case Text:
			put(count(uint64(len(x.Say))))
			put(x.Say)
		case List:
			if deep > api.MaxNest {
				return api.ErrDeep
			}
			put(count(uint64(len(x.List))))
			if e := writeAll(x.List, deep+1, put); e != api.OK {
				return e
			}
		}
	}
	return api.OK
}

// folded is a number as a count: those below 0 are the odd ones.
func folded(n int64) uint64 {
	if n < 0 {
		return ^(uint64(n) << 1)
	}
	return uint64(n) << 1
}

// unfolded is the number of a count.
func unfolded(n uint64) int64 {
	if n&1 == 1 {
		return ^int64(n >> 1)
	}
	return int64(n >> 1)
}

// count are a count's bytes.
func count(n uint64) string {
	var b []byte
	for n >= countMore {
		b = append(b, byte(n)|countMore)
		n >>= countBits
	}
	return string(append(b, byte(n)))
}
