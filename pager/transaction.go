package pager

import "tollgate/api"

// Use says which pages are used.
func (p *Pager) Use(l []int) api.Errno {
	if e := p.refuse(); e != api.OK {
		return e
	}
	if len(p.taken) > 0 || len(p.dropped) > 0 {
		return api.ErrState
	}
	used := pages{}
	for _, n := range l {
		if !p.has(n) {
			return api.ErrArg
		}
		used.add(n)
	}
	if len(used) < len(l) {
		return api.ErrTwice
	}
	p.used, p.low = used, first
	return api.OK
}

// Alloc takes a page.
func (p *Pager) Alloc() (int, api.Errno) {
	if e := p.refuse(); e != api.OK {
		return 0, e
	}
	for p.low < p.Pages() && !p.isFree(p.low) {
		p.low++
	}
	if p.low >= p.Pages() {
		return 0, api.ErrFull
	}
	p.taken.add(p.low)
	p.blank.add(p.low)
	return p.low, api.OK
}

// Drop drops a page.
func (p *Pager) Drop(n int) api.Errno {
	if e := p.refuse(); e != api.OK {
		return e
	}
	if !p.has(n) {
		return api.ErrArg
	}
	if p.isFree(n) || p.dropped.has(n) {
		return api.ErrState
	}
	if !p.taken.has(n) {
		p.dropped.add(n)
		return api.OK
	}
	delete(p.taken, n)
	delete(p.blank, n)
	p.low = min(p.low, n)
	return api.OK
}

// Commit lets all last that was done.
func (p *Pager) Commit(root int) api.Errno {
	if e := p.refuse(); e != api.OK {
		return e
	}
	if root != 0 {
		if !p.has(root) {
			return api.ErrArg
		}
		if p.isFree(root) || p.dropped.has(root) || p.blank.has(root) {
			return api.ErrState
		}
	}
	next := meta{seq: p.last.seq + 1, root: root}
	if e := p.keep(next); e != api.OK {
		return e
	}
	p.last = next
	for n := range p.dropped {
		delete(p.used, n)
		p.low = min(p.low, n)
	}
	for n := range p.taken {
		p.used.add(n)
	}
	p.begin()
	return api.OK
}

// Abort undoes all that was done.
func (p *Pager) Abort() api.Errno {
	if e := p.refuse(); e != api.OK {
		return e
	}
	for n := range p.taken {
		p.low = min(p.low, n)
	}
	p.begin()
	return api.OK
}

// keep lets all that was written last, and then the meta: no crash leaves the meta without what it speaks of.
func (p *Pager) keep(m meta) api.Errno {
	if e := p.disk.Flush(); e != api.OK {
		return e
	}
	if e := p.put(m.seq%metas, m.payload()); e != api.OK {
		return e
	}
	return p.disk.Flush()
}

// begin begins a new transaction.
func (p *Pager) begin() {
	p.taken, p.blank, p.dropped = pages{}, pages{}, pages{}
}

// isFree says whether a page from 2 on is free.
func (p *Pager) isFree(n int) bool {
	return !p.used.has(n) && !p.taken.has(n)
}
