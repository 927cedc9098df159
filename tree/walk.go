package tree

import (
	"iter"
	"slices"

	"tollgate/api"
)

// anyLevel is the level of the root, before it was read.
const anyLevel = -1

// spot is where a node is looked for: its page, its level, and between which keys its own are (low itself among them).
type spot struct {
	page, level int
	low, high   string
}

// step is a node that was found at a spot, and at which of its kids one goes on.
type step struct {
	spot spot
	node node
	at   int
}

// kid is where a kid of it is looked for.
func (s step) kid(i int) spot {
	kids := s.node.kids
	k := spot{page: kids[i].page, level: s.node.level - 1, low: kids[i].low, high: s.spot.high}
	if i+1 < len(kids) {
		k.high = kids[i+1].low
	}
	return k
}

// meets says whether there can be keys from from on, and below to.
func (s spot) meets(from, to string) bool {
	return below(from, s.high) && below(s.low, to)
}

// holds says whether a node can stand there. Levels go down, and no two spots of one level have a key in common: whoever wrote the pages, no way goes round, and none is gone twice.
func (s spot) holds(n node) bool {
	keys := n.keys()
	if len(keys) == 0 || s.level != anyLevel && s.level != n.level {
		return false
	}
	if n.level > 0 && (len(keys) == 1 || keys[0] != s.low) {
		return false
	}
	for i := 1; i < len(keys); i++ {
		if keys[i-1] >= keys[i] {
			return false
		}
	}
	return keys[0] >= s.low && below(keys[len(keys)-1], s.high)
}

// read is the node that stands at a spot.
func (t *Tree) read(s spot) (node, api.Errno) {
	b, e := t.pager.Read(s.page)
	if e != api.OK {
		return node{}, e
	}
	n, ok := decoded(b)
	if !ok || !s.holds(n) {
		return node{}, api.ErrForm
	}
	return n, api.OK
}

// top is where the root is looked for.
func (t *Tree) top() spot {
	return spot{page: t.root, level: anyLevel}
}

// way is the way to a key, from the root to a leaf; in a tree without cells to an empty leaf, which has no page.
func (t *Tree) way(key string) ([]step, api.Errno) {
	if t.root == 0 {
		return []step{{}}, api.OK
	}
	var l []step
	for s := t.top(); ; {
		n, e := t.read(s)
		if e != api.OK {
			return nil, e
		}
		here := step{s, n, kidAt(n.kids, key)}
		l = append(l, here)
		if n.level == 0 {
			return l, api.OK
		}
		s = here.kid(here.at)
	}
}

// seen tells the nodes with keys from from on, and below to, and those above these, by rising keys; it ends with the first one that can't be read, and tells why.
func (t *Tree) seen(from, to string) iter.Seq2[step, api.Errno] {
	return func(yield func(step, api.Errno) bool) {
		var ahead []spot
		if t.root != 0 {
			ahead = append(ahead, t.top())
		}
		for len(ahead) > 0 {
			s := ahead[len(ahead)-1]
			ahead = ahead[:len(ahead)-1]
			n, e := t.read(s)
			here := step{spot: s, node: n}
			if !yield(here, e) || e != api.OK {
				return
			}
			for i := len(n.kids) - 1; i >= 0; i-- {
				if k := here.kid(i); k.meets(from, to) {
					ahead = append(ahead, k)
				}
			}
		}
	}
}

// Pages are its pages.
func (t *Tree) Pages() ([]int, api.Errno) {
	if t == nil {
		return nil, api.ErrNil
	}
	var all []int
	for s, e := range t.seen("", "") {
		if e != api.OK {
			return nil, e
		}
		all = append(all, s.spot.page)
	}
	slices.Sort(all)
	return all, api.OK
}
