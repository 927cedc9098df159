package tree

import (
	"slices"
	"strings"

	"tollgate/api"
	"tollgate/page"
)

// What a node's page begins with, and how many bytes it has for cells or kids, behind the mark and the level.
const (
	mark = "tr"
	room = page.Room - len(mark) - 1
)

// least is how many bytes of cells or kids each node has, but for the root. Two nodes that do not fit together have, when they are split as evenly as can be, (room + 1 - 142) / 2 each, or more (142 is a whole cell): so they have enough. A node with so many has 2 cells, or 4 kids, or more: so no tree is higher than 8, and no call takes more than 2 pages for each level and one for a new root.
const least = room / 3

// node is what stands on a page: a leaf (level 0) has cells; each other one has kids, each a level below it.
type node struct {
	level int
	cells []Cell
	kids  []kid
}

// kid is a node below another one. No key there is below low.
type kid struct {
	low  string
	page int
	node *node // what is to be written: it has no page yet
}

func cellSize(c Cell) int { return 2 + len(c.Key) + len(c.Value) }

func kidSize(k kid) int { return 3 + len(k.low) }

// cellAt is the place of a key in a list of cells, or that where it would stand.
func cellAt(l []Cell, key string) (int, bool) {
	return slices.BinarySearchFunc(l, key, func(c Cell, key string) int { return strings.Compare(c.Key, key) })
}

// kidAt is the place of the kid at or below which a key stands: the last one whose low is not above it.
func kidAt(l []kid, key string) int {
	i, ok := slices.BinarySearchFunc(l, key, func(k kid, key string) int { return strings.Compare(k.low, key) })
	if !ok {
		i--
	}
	return i
}

// size is how many bytes its cells or kids have.
func (n node) size() int {
	return total(n.cells, cellSize) + total(n.kids, kidSize)
}

// with are a node and the one behind it, as one.
func (n node) with(next node) node {
	end, last := len(n.cells), len(n.kids)
	return node{
		level: n.level,
		cells: spliced(n.cells, end, end, next.cells...),
		kids:  spliced(n.kids, last, last, next.kids...),
	}
}

// parts are the kids that stand for a node, whatever its size, in the node above it.
func (n node) parts(low string) []kid {
	switch {
	case len(n.cells) == 0 && len(n.kids) == 0:
		return nil
	case len(n.kids) == 1: // the root, of whose kids one is left, is needed no more
		return n.kids
	case n.size() <= room:
		return []kid{{low: low, node: &n}}
	}
	left, right := node{level: n.level}, node{level: n.level}
	left.cells, right.cells = halved(n.cells, cellSize)
	left.kids, right.kids = halved(n.kids, kidSize)
	return []kid{{low: low, node: &left}, {low: right.keys()[0], node: &right}}
}

// keys are the keys of its cells, or the lows of its kids.
func (n node) keys() []string {
	var l []string
	for _, c := range n.cells {
		l = append(l, c.Key)
	}
	for _, k := range n.kids {
		l = append(l, k.low)
	}
	return l
}

// bytes are what its page holds.
func (n node) bytes() []byte {
	b := append([]byte(mark), byte(n.level))
	for _, c := range n.cells {
		b = append(b, byte(len(c.Key)), byte(len(c.Value)))
		b = append(b, c.Key...)
		b = append(b, c.Value...)
	}
	for _, k := range n.kids {
		b = append(b, byte(k.page>>8), byte(k.page), byte(len(k.low)))
		b = append(b, k.low...)
	}
	return b
}

// decoded is the node whose page holds these bytes, if they are one's.
func decoded(b []byte) (node, bool) {
	rest, ok := strings.CutPrefix(string(b), mark)
	if !ok || rest == "" {
		return node{}, false
	}
	n := node{level: int(rest[0])}
	r := reader{rest: rest[1:]}
	for r.rest != "" && !r.bad {
		if n.level == 0 {
			n.cells = append(n.cells, r.cell())
		} else {
			n.kids = append(n.kids, r.kid())
		}
	}
	return n, !r.bad
}

// reader reads bytes from the front on, till they are bad.
type reader struct {
	rest string
	bad  bool
}

func (r *reader) cell() Cell {
	key, value := r.number(), r.number()
	r.bad = r.bad || key == 0 || key > api.MaxKey || value > api.MaxCell
	return Cell{r.text(key), r.text(value)}
}

func (r *reader) kid() kid {
	high, low := r.number(), r.number()
	key := r.number()
	r.bad = r.bad || key > api.MaxKey
	return kid{page: high<<8 | low, low: r.text(key)}
}

// number is what the next byte says.
func (r *reader) number() int {
	s := r.text(1)
	if s == "" {
		return 0
	}
	return int(s[0])
}

// text are the next bytes; they are bad, if there are not so many.
func (r *reader) text(n int) string {
	if n > len(r.rest) {
		r.bad = true
		return ""
	}
	s := r.rest[:n]
	r.rest = r.rest[n:]
	return s
}
