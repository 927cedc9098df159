package tree

import (
	"slices"

	"tollgate/api"
)

// plan is what a change asks for: what is the root then (none, if no cells are left), and which pages are the tree's no more.
type plan struct {
	top  []kid
	gone []int
}

// change makes the tree that which comes of a way at whose end the leaf was changed. All is read, and all room is sure, before anything is written: so nothing is to be undone.
func (t *Tree) change(way []step) api.Errno {
	p, e := t.plan(way)
	if e != api.OK {
		return e
	}
	return t.apply(p)
}

// plan puts nodes in order along a way, from its end to the root: each one that is too great is split, each one that is too small is put together with one beside it.
func (t *Tree) plan(way []step) (plan, api.Errno) {
	var p plan
	for i := len(way) - 1; i > 0; i-- {
		above := &way[i-1]
		n, from, to, e := t.filled(way[i].node, *above)
		if e != api.OK {
			return plan{}, e
		}
		kids := above.node.kids
		for _, k := range kids[from:to] {
			p.gone = append(p.gone, k.page)
		}
		above.node.kids = spliced(kids, from, to, n.parts(kids[from].low)...)
	}
	if t.root != 0 {
		p.gone = append(p.gone, t.root)
	}
	root := way[0].node
	p.top = root.parts("")
	if len(p.top) > 1 {
		p.top = node{level: root.level + 1, kids: p.top}.parts("")
	}
	return p, api.OK
}

// filled is a node, together with one beside it if it is too small, and from which kid of the node above on, and up to which one, they stand there.
func (t *Tree) filled(n node, above step) (whole node, from, to int, e api.Errno) {
	from, to = above.at, above.at+1
	if n.size() >= least {
		return n, from, to, api.OK
	}
	if from > 0 {
		left, e := t.read(above.kid(from - 1))
		return left.with(n), from - 1, to, e
	}
	right, e := t.read(above.kid(to))
	return n.with(right), from, to + 1, e
}

// apply does what is planned.
func (t *Tree) apply(p plan) api.Errno {
	var again, drop []int // the pages that go: those that may be written again, the others
	for _, n := range p.gone {
		if _, ok := t.taken[n]; ok {
			again = append(again, n)
		} else {
			drop = append(drop, n)
		}
	}
	if fresh(p.top) > len(again)+t.pager.Free() {
		return api.ErrFull
	}
	take := func() (int, api.Errno) {
		if len(again) == 0 {
			return t.pager.Alloc()
		}
		n := again[0]
		again = again[1:]
		return n, api.OK
	}
	if e := t.settle(p.top, take); e != api.OK {
		return e
	}
	for _, n := range slices.Concat(again, drop) {
		if e := t.pager.Drop(n); e != api.OK {
			return e
		}
		delete(t.taken, n)
	}
	t.root = 0
	for _, k := range p.top {
		t.root = k.page
	}
	return api.OK
}

// fresh tells how many pages are to be written for kids.
func fresh(kids []kid) int {
	n := 0
	for _, k := range kids {
		if k.node != nil {
			n += 1 + fresh(k.node.kids)
		}
	}
	return n
}

// settle writes the kids that have no page, what is below them first: they tell its pages.
func (t *Tree) settle(kids []kid, take func() (int, api.Errno)) api.Errno {
	for i, k := range kids {
		if k.node == nil {
			continue
		}
		if e := t.settle(k.node.kids, take); e != api.OK {
			return e
		}
		n, e := take()
		if e != api.OK {
			return e
		}
		if e := t.pager.Write(n, k.node.bytes()); e != api.OK {
			return e
		}
		t.taken[n] = struct{}{}
		kids[i] = kid{low: k.low, page: n}
	}
	return api.OK
}
