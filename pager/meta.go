package pager

import (
	"bytes"

	"tollgate/api"
)

// The pages from 0 on that are metas, what their payloads begin with, how many bytes these have, and the greatest sequence number.
const (
	metas    = 2
	mark     = "tollgate"
	metaSize = len(mark) + 3*8
	maxSeq   = 1 << 62
)

// meta says how the pages stood at a commit.
type meta struct {
	seq, root int
}

// payload are the bytes of a meta.
func (m meta) payload() []byte {
	b := make([]byte, 0, metaSize)
	b = append(b, mark...)
	for _, v := range [...]int{m.seq, m.root, m.seq} {
		b = appended(b, v)
	}
	return b
}

// meta reads a meta, if it is sound.
func (p *Pager) meta(n int) (meta, bool) {
	b, e := p.get(n)
	if e != api.OK || len(b) != metaSize {
		return meta{}, false
	}
	m := meta{seq: number(b[8:16]), root: number(b[16:24])}
	// Its mark and its second sequence number are right, if it is written so again.
	sound := bytes.Equal(b, m.payload()) && 0 <= m.seq && m.seq <= maxSeq && (m.root == 0 || p.has(m.root))
	if !sound {
		return meta{}, false
	}
	return m, true
}

// latest is the meta with the greatest sequence number, of those that read finds sound by their pages.
func latest(read func(n int) (meta, bool)) (meta, bool) {
	var best meta
	found := false
	for n := range metas {
		if m, ok := read(n); ok && (!found || m.seq > best.seq) {
			best, found = m, true
		}
	}
	return best, found
}

// appended puts a number's 8 bytes behind b, the highest first.
func appended(b []byte, v int) []byte {
	for shift := 56; shift >= 0; shift -= 8 {
		b = append(b, byte(v>>shift))
	}
	return b
}

// number is what 8 bytes say, the highest first.
func number(b []byte) int {
	var v uint64
	for _, c := range b {
		v = v<<8 | uint64(c)
	}
	return int(v)
}
