package key

import (
	"math/bits"
	"strings"

	"tollgate/api"
)

// reader has the bytes that were not read yet. What it tells with a false was not there: these bytes are no key's, and no record's.
type reader struct{ left string }

// take are the next n bytes.
func (r *reader) take(n uint64) (string, bool) {
	if n > uint64(len(r.left)) {
		return "", false
	}
	s := r.left[:n]
	r.left = r.left[n:]
	return s, true
}

// part is the next part of a key.
func (r *reader) part() (Part, bool) {
	mark, _ := r.take(1)
	switch mark {
	case numberMark:
		s, ok := r.take(8)
		if !ok {
			return Part{}, false
		}
		var n uint64
		for i := range len(s) {
			n = n<<8 | uint64(s[i])
		}
		return Num(int64(n ^ signBit)), true
	case textMark:
		s, ok := r.text()
		if !ok {
			return Part{}, false
		}
		return Str(s), true
	}
	return Part{}, false
}

// text is a text of a key, behind its mark.
func (r *reader) text() (string, bool) {
	var say letter
	for {
		i := strings.IndexByte(r.left, 0)
		if i < 0 {
			return "", false
		}
		say.add(r.left[:i])
		r.left = r.left[i:]
		switch end, _ := r.take(2); end {
		case textEnd:
			return say.all.String(), true
		case zero:
			say.add("\x00")
		default:
			return "", false
		}
	}
}

// item is the next item of a record.
func (r *reader) item() (Item, api.Errno) {
	var read func(deep int) (Item, api.Errno)
	read = func(deep int) (Item, api.Errno) {
		mark, some := r.take(1)
		n, ok := r.count()
		if !some || !ok {
			return Item{}, api.ErrForm
		}
		x := Item{Kind: mark[0]}
		switch x.Kind {
		case Number:
			x.N = unfolded(n)
		case Text:
			s, ok := r.take(n)
			if !ok {
				return Item{}, api.ErrForm
			}
			x.Say = strings.Clone(s)
		case List:
			if deep > api.MaxNest {
				return Item{}, api.ErrDeep
			}
			// The count may be any number: room is made only for what is there.
			for range n {
				y, e := read(deep + 1)
				if e != api.OK {
					return Item{}, e
				}
				x.List = append(x.List, y)
			}
		default:
			return Item{}, api.ErrForm
		}
		return x, api.OK
	}
	return read(1)
}

// count is the next count, written in no more bytes than it needs.
func (r *reader) count() (uint64, bool) {
	var n uint64
	for shift := 0; ; shift += countBits {
		s, ok := r.take(1)
		if !ok {
			return 0, false
		}
		b := uint64(s[0])
		seven := b &^ countMore
		if bits.Len64(seven) > 64-shift {
			return 0, false
		}
		n |= seven << shift
		if b < countMore {
			return n, b != 0 || shift == 0
		}
	}
}
