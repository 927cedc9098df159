package word

// Kinds of bytes. Each byte is of just one, so that names and quoted texts are told by the same table; they stand in such an order that a byte from sign on is itself in a quoted text, and one from inner on may stand in a name.
const (
	coded  uint8 = iota // in a quoted text \x and two digits
	feed                // in a quoted text \n
	marked              // in a quoted text itself, behind a \
	sign                // stands in no name
	inner               // stands in a name behind its first byte alone
	letter              // stands anywhere in a name
)

// byteKinds is the table of the kinds, by bytes. It is made anew for each call, since a package keeps nothing.
func byteKinds() [256]uint8 {
	var kinds [256]uint8
	span := func(kind, from, to uint8) {
		for i := range int(to-from) + 1 {
			kinds[int(from)+i] = kind
		}
	}
	span(sign, 0x20, 0x7E)
	span(letter, 'a', 'z')
	span(letter, 'A', 'Z')
	span(inner, '0', '9')
	span(inner, '-', '.')
	span(inner, '_', '_')
	span(marked, '"', '"')
	span(marked, '\\', '\\')
	span(feed, '\n', '\n')
	return kinds
}
