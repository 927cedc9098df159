package pager_test

import (
	"bytes"
	"fmt"
	"math/rand/v2"
	"slices"
	"strings"
	"testing"

	"tollgate/api"
	"tollgate/disk"
	"tollgate/page"
	"tollgate/pager"
)

// Numbers that no page from 2 on has, on a disk of 6 pages.
var wrong = []int{-1 << 63, -2, -1, 0, 1, 6, 7, 1 << 14, 1<<32 + 3, 1<<62 + 2, 1<<63 - 1}

// The errors of each call, in their order; what is refused changes nothing.
func TestRefuses(t *testing.T) {
	d, p := formatted(t, 24)
	takes(t, p, 2, 3, 4)
	write(t, p, 2, "a")
	write(t, p, 3, "b")
	commit(t, p, 2)
	takes(t, p, 5)
	answers(t, "Drop(3)", p.Drop(3), api.OK)
	done := d.Done()
	long, room := make([]byte, page.Room+1), make([]byte, page.Room)
	for range 2 {
		for _, n := range wrong {
			refuses(t, p, n, api.ErrArg)
			answers(t, "Write", p.Write(n, nil), api.ErrArg)
			answers(t, "Write", p.Write(n, long), api.ErrArg)
			answers(t, "Drop", p.Drop(n), api.ErrArg)
			answers(t, "Use", p.Use([]int{n}), api.ErrState)
			if n != 0 {
				answers(t, "Commit", p.Commit(n), api.ErrArg)
			}
		}
		for _, n := range []int{2, 3, 4} { // used, dropped, used
			answers(t, "Write", p.Write(n, room), api.ErrState)
			answers(t, "Write", p.Write(n, long), api.ErrArg)
		}
		answers(t, "Write", p.Write(5, long), api.ErrArg)
		answers(t, "Write", p.Write(5, make([]byte, 1<<16)), api.ErrArg)
		refuses(t, p, 5, api.ErrNone)
		answers(t, "Drop of a dropped one", p.Drop(3), api.ErrState)
		answers(t, "Commit of a dropped one", p.Commit(3), api.ErrState)
		answers(t, "Commit of a blank one", p.Commit(5), api.ErrState)
		answers(t, "Use", p.Use(nil), api.ErrState)
		answers(t, "Use", p.Use([]int{2, 2}), api.ErrState)
		full(t, p)
		stands(t, p, 6, 0, 2, 2)
		reads(t, p, 2, "a")
		reads(t, p, 3, "b")
	}
	if d.Done() != done {
		t.Errorf("refused calls wrote or flushed")
	}
	write(t, p, 5, string(room))
	commit(t, p, 5)
	stands(t, p, 6, 1, 3, 5)
}

// The errors of Use: wherever a page stands that there is not, and ahead of one that stands twice.
func TestUseRefuses(t *testing.T) {
	_, p := formatted(t, 24)
	answers(t, "Use", p.Use([]int{3, 5}), api.OK)
	for _, n := range wrong {
		for _, l := range [][]int{{n}, {n, n}, {2, n}, {2, 3, 4, 5, n}, {n, 2, 2}, {2, 2, n}, {2, 2, 2, 2, 2, 2, 2, n}} {
			answers(t, fmt.Sprint("Use", l), p.Use(l), api.ErrArg)
		}
	}
	for _, l := range [][]int{{2, 2}, {2, 3, 2}, {5, 4, 3, 2, 5}, {4, 4, 4, 4, 4, 4, 4, 4}} {
		answers(t, fmt.Sprint("Use", l), p.Use(l), api.ErrTwice)
	}
	stands(t, p, 6, 2, 1, 0)
	answers(t, "Drop", p.Drop(3), api.OK)
	answers(t, "Use when one is dropped", p.Use([]int{9}), api.ErrState)
	answers(t, "Abort", p.Abort(), api.OK)
	takes(t, p, 2, 4)
	answers(t, "Use when some are taken", p.Use([]int{9}), api.ErrState)
	answers(t, "Drop", p.Drop(2), api.OK)
	answers(t, "Use when one is taken", p.Use(nil), api.ErrState)
	answers(t, "Drop", p.Drop(4), api.OK)
	answers(t, "Use when what was taken is free again", p.Use([]int{2}), api.OK)
	stands(t, p, 6, 3, 1, 0)
}

// P4.2: what was taken and dropped is free at once; what was used ahead of it, at the next commit.
func TestDrop(t *testing.T) {
	_, p := formatted(t, 28)
	takes(t, p, 2, 3, 4)
	answers(t, "Drop(3)", p.Drop(3), api.OK)
	stands(t, p, 7, 3, 1, 0)
	answers(t, "Drop(3) again", p.Drop(3), api.ErrState)
	answers(t, "Drop(5)", p.Drop(5), api.ErrState)
	takes(t, p, 3, 5)
	answers(t, "Drop(2)", p.Drop(2), api.OK)
	commit(t, p, 0)
	stands(t, p, 7, 2, 2, 0)
	answers(t, "Drop(4)", p.Drop(4), api.OK)
	answers(t, "Drop(3)", p.Drop(3), api.OK)
	stands(t, p, 7, 2, 2, 0)
	takes(t, p, 2, 6)
	full(t, p)
	answers(t, "Drop(6)", p.Drop(6), api.OK)
	stands(t, p, 7, 1, 2, 0)
	commit(t, p, 0)
	stands(t, p, 7, 3, 3, 0)
	takes(t, p, 3, 4, 6)
	full(t, p)
}

// P4.3: which roots are committed, and into which pages, byte by byte.
func TestCommit(t *testing.T) {
	d, p := formatted(t, 24)
	takes(t, p, 2, 3)
	write(t, p, 2, "a")
	write(t, p, 3, "b")
	answers(t, "Commit(4), free", p.Commit(4), api.ErrState)
	old := [2]uint64{0, 0}
	for seq, root := range []int{2: 3, 3: 2, 4: 0, 5: 0, 6: 2, 7: 3} {
		if seq < 2 {
			continue
		}
		done := d.Done()
		commit(t, p, root)
		if d.Done() != done+6 || d.Waits() != 0 {
			t.Errorf("Commit: %d done, %d wait", d.Done()-done, d.Waits())
		}
		stands(t, p, 6, 2, seq, root)
		holds(t, d, seq%2, uint64(seq), uint64(root))
		holds(t, d, 1-seq%2, old[0], old[1])
		old = [2]uint64{uint64(seq), uint64(root)}
		if seq == 2 {
			old = [2]uint64{2, 3}
		}
		stands(t, opened(t, d.Copy(), root), 6, 0, seq, root)
	}
	answers(t, "Drop(3)", p.Drop(3), api.OK)
	answers(t, "Commit(3), dropped", p.Commit(3), api.ErrState)
	answers(t, "Abort", p.Abort(), api.OK)
	commit(t, p, 3)
	stands(t, p, 6, 2, 8, 3)
}

// P4.3: the number of a commit goes on from what was found, also at a large one.
func TestCommitGoesOn(t *testing.T) {
	for _, seq := range []uint64{0, 1, 2, 7, 255, 1<<32 - 1, 1<<62 - 3} {
		zero, one := encoded(t, 0, says("tollgate", seq, 3, seq)), []byte(nil)
		if seq%2 == 1 {
			zero, one = nil, encoded(t, 1, says("tollgate", seq, 3, seq))
		}
		d := stored(t, zero, one)
		p := opened(t, d, 3)
		commit(t, p, 2)
		stands(t, p, 6, 0, int(seq)+1, 2)
		holds(t, d, int(seq+1)%2, seq+1, 2)
		holds(t, d, int(seq)%2, seq, 3)
		commit(t, p, 0)
		holds(t, d, int(seq)%2, seq+2, 0)
		stands(t, opened(t, d, 0), 6, 0, int(seq)+2, 0)
	}
}

// P4.3: Commit flushes, writes the meta sector by sector, and flushes.
func TestCommitSteps(t *testing.T) {
	d, p := formatted(t, 24)
	commit(t, p, 0)
	whole := encoded(t, 1, says("tollgate", 3, 2, 3))
	for k := range 7 {
		c := d.Copy()
		lay(t, c, 1, bytes.Repeat([]byte{'z'}, 512))
		q := opened(t, c, 0)
		answers(t, "Use", q.Use(nil), api.OK)
		takes(t, q, 2)
		write(t, q, 2, "a")
		c.Fuse(k, disk.Plan{Keep: slices.Repeat([]bool{true}, 4), Torn: -1})
		want := api.ErrDead
		if k == 6 {
			want = api.OK
		}
		answers(t, "Commit by the fuse", q.Commit(2), want)
		if k == 0 {
			continue // the flush by the fuse: of what waited the first four writes are kept
		}
		r := crashed(t, c, disk.Plan{})
		n := min(k*128, 512)
		if got, want := raw(t, r, 1), append(bytes.Clone(whole[:n]), bytes.Repeat([]byte{'z'}, 512-n)...); !bytes.Equal(got, want) {
			t.Errorf("%d done: %q, not %q", k, got, want)
		}
		if !bytes.Equal(raw(t, r, 2), encoded(t, 2, "a")) {
			t.Errorf("%d done: what was written ahead of the commit does not last", k)
		}
	}
}

// P4.5: behind Abort all is as behind the last commit, or Use.
func TestAbort(t *testing.T) {
	d, p := formatted(t, 32)
	takes(t, p, 2, 3, 4)
	write(t, p, 2, "a")
	write(t, p, 3, "b")
	write(t, p, 4, "c")
	commit(t, p, 3)
	for range 3 {
		takes(t, p, 5, 6, 7)
		write(t, p, 6, "x")
		answers(t, "Drop", p.Drop(2), api.OK)
		answers(t, "Drop", p.Drop(3), api.OK)
		answers(t, "Drop", p.Drop(5), api.OK)
		done := d.Done()
		answers(t, "Abort", p.Abort(), api.OK)
		answers(t, "Abort", p.Abort(), api.OK)
		if d.Done() != done {
			t.Errorf("Abort wrote or flushed")
		}
		stands(t, p, 8, 3, 2, 3)
		reads(t, p, 2, "a")
		reads(t, p, 3, "b")
		reads(t, p, 4, "c")
		for n := 5; n < 8; n++ {
			refuses(t, p, n, api.ErrState)
			answers(t, "Write", p.Write(n, nil), api.ErrState)
		}
	}
	answers(t, "Use", p.Use([]int{4, 6}), api.OK)
	takes(t, p, 2)
	write(t, p, 2, "y")
	answers(t, "Drop", p.Drop(4), api.OK)
	answers(t, "Abort", p.Abort(), api.OK)
	stands(t, p, 8, 4, 2, 3)
	reads(t, p, 4, "c")
	reads(t, p, 6, "x")
	takes(t, p, 2, 3, 5, 7)
	full(t, p)
}

// Of a pager whose disk has died nothing is asked any more, whatever is handed in; what it tells of itself stays.
func TestDead(t *testing.T) {
	die := map[string]func(*disk.Disk, *pager.Pager) api.Errno{
		"Crash": func(d *disk.Disk, p *pager.Pager) api.Errno {
			d.Crash(disk.Plan{})
			return p.Abort()
		},
		"Write": func(d *disk.Disk, p *pager.Pager) api.Errno {
			d.Fuse(2, disk.Plan{})
			return p.Write(4, []byte("d"))
		},
		"Commit, the first flush": func(d *disk.Disk, p *pager.Pager) api.Errno {
			d.Fuse(0, disk.Plan{})
			return p.Commit(4)
		},
		"Commit, the meta": func(d *disk.Disk, p *pager.Pager) api.Errno {
			d.Fuse(3, disk.Plan{})
			return p.Commit(4)
		},
		"Commit, the last flush": func(d *disk.Disk, p *pager.Pager) api.Errno {
			d.Fuse(5, disk.Plan{Keep: []bool{true, true, true, true}, Torn: -1})
			return p.Commit(4)
		},
	}
	for how, f := range die {
		d, p := formatted(t, 24)
		takes(t, p, 2, 3)
		write(t, p, 2, "a")
		write(t, p, 3, "b")
		commit(t, p, 3)
		takes(t, p, 4)
		write(t, p, 4, "c")
		answers(t, "Drop", p.Drop(2), api.OK)
		answers(t, how, f(d, p), api.ErrDead)
		for range 2 {
			for _, n := range append([]int{2, 3, 4, 5}, wrong...) {
				refuses(t, p, n, api.ErrDead)
				answers(t, how+": Use", p.Use([]int{n, n}), api.ErrDead)
				answers(t, how+": Write", p.Write(n, make([]byte, 600)), api.ErrDead)
				answers(t, how+": Drop", p.Drop(n), api.ErrDead)
				answers(t, how+": Commit", p.Commit(n), api.ErrDead)
			}
			if n, e := p.Alloc(); n != 0 || e != api.ErrDead {
				t.Errorf("%s: Alloc: %d, %v", how, n, e)
			}
			answers(t, how+": Abort", p.Abort(), api.ErrDead)
			stands(t, p, 6, 1, 2, 3)
		}
	}
}

// mind is a pager in mind: which pages are what, and what each reads as (nil: it is not whole).
type mind struct {
	seq, root int
	kind      []int // by pages
	says      []*string
}

// The kinds of pages.
const (
	free = iota
	used
	dropped
	blank
	written
)

// told is what mind says that a page reads as.
func (m *mind) told(n int) (string, api.Errno) {
	switch {
	case n < 2 || n >= len(m.kind):
		return "", api.ErrArg
	case m.kind[n] == free:
		return "", api.ErrState
	case m.kind[n] == blank:
		return "", api.ErrNone
	case m.says[n] == nil:
		return "", api.ErrSum
	}
	return *m.says[n], api.OK
}

// count is how many pages from 2 on are of one of these kinds.
func (m *mind) count(kinds ...int) int {
	c := 0
	for _, k := range m.kind[2:] {
		if slices.Contains(kinds, k) {
			c++
		}
	}
	return c
}

// turn makes all pages of each kind into the other one.
func (m *mind) turn(into map[int]int) {
	for n, k := range m.kind {
		if to, ok := into[k]; ok {
			m.kind[n] = to
		}
	}
}

func (m *mind) use(l []int) api.Errno {
	if m.count(dropped, blank, written) > 0 {
		return api.ErrState
	}
	if slices.ContainsFunc(l, func(n int) bool { return n < 2 || n >= len(m.kind) }) {
		return api.ErrArg
	}
	for i, n := range l {
		if slices.Contains(l[:i], n) {
			return api.ErrTwice
		}
	}
	m.turn(map[int]int{used: free})
	for _, n := range l {
		m.kind[n] = used
	}
	return api.OK
}

func (m *mind) alloc() (int, api.Errno) {
	for n := 2; n < len(m.kind); n++ {
		if m.kind[n] == free {
			m.kind[n] = blank
			return n, api.OK
		}
	}
	return 0, api.ErrFull
}

func (m *mind) write(n int, b string) api.Errno {
	if n < 2 || n >= len(m.kind) || len(b) > 502 {
		return api.ErrArg
	}
	if m.kind[n] != blank && m.kind[n] != written {
		return api.ErrState
	}
	m.kind[n], m.says[n] = written, &b
	return api.OK
}

func (m *mind) drop(n int) api.Errno {
	if n < 2 || n >= len(m.kind) {
		return api.ErrArg
	}
	switch m.kind[n] {
	case free, dropped:
		return api.ErrState
	case used:
		m.kind[n] = dropped
	default:
		m.kind[n] = free
	}
	return api.OK
}

func (m *mind) commit(root int) api.Errno {
	if root < 0 || root == 1 || root >= len(m.kind) {
		return api.ErrArg
	}
	if root != 0 && m.kind[root] != used && m.kind[root] != written {
		return api.ErrState
	}
	m.seq, m.root = m.seq+1, root
	m.turn(map[int]int{dropped: free, blank: used, written: used})
	return api.OK
}

// alike asks that a pager is as it is in mind.
func (m *mind) alike(t testing.TB, p *pager.Pager) {
	t.Helper()
	stands(t, p, len(m.kind), m.count(free), m.seq, m.root)
	for n := range m.kind {
		want, e := m.told(n)
		if b, f := p.Read(n); string(b) != want || f != e {
			t.Errorf("Read(%d): %.40q, %v, not %.40q, %v", n, b, f, want, e)
		}
	}
}

// copied is one that goes its own way.
func (m *mind) copied() *mind {
	return &mind{m.seq, m.root, slices.Clone(m.kind), slices.Clone(m.says)}
}

// step does something to a pager, and in mind; it tells what both answered.
func (m *mind) step(r *rand.Rand, p *pager.Pager) (call string, got, want api.Errno) {
	n := r.IntN(len(m.kind)+3) - 1
	switch r.IntN(11) {
	case 0, 1, 2, 3:
		a, e := p.Alloc()
		b, f := m.alloc()
		if a != b {
			e = -1
		}
		return fmt.Sprint("Alloc ", a, b), e, f
	case 4, 5, 6:
		b := strings.Repeat(string(rune('a'+r.IntN(26))), r.IntN(504))
		return fmt.Sprintf("Write(%d, %d bytes)", n, len(b)), p.Write(n, []byte(b)), m.write(n, b)
	case 7, 8:
		return fmt.Sprintf("Drop(%d)", n), p.Drop(n), m.drop(n)
	case 9:
		m.turn(map[int]int{dropped: used, blank: free, written: free})
		return "Abort", p.Abort(), api.OK
	}
	return fmt.Sprintf("Commit(%d)", n), p.Commit(n), m.commit(n)
}

// someUse says of some pages that they are used, to a pager and in mind.
func (m *mind) someUse(r *rand.Rand, p *pager.Pager) (call string, got, want api.Errno) {
	l := make([]int, r.IntN(6))
	for i := range l {
		l[i] = 1 + r.IntN(len(m.kind))
	}
	return fmt.Sprint("Use", l), p.Use(l), m.use(l)
}

// P4.1 to P4.3, P4.5: whatever is done, a pager is as it is in mind; and so it is opened again.
func TestRows(t *testing.T) {
	r := rand.New(rand.NewPCG(4, 1))
	for row := range 300 {
		size := 3 + r.IntN(12)
		d, p := formatted(t, 4*size+r.IntN(4))
		m := &mind{seq: 1, kind: make([]int, size), says: make([]*string, size)}
		for range 200 {
			does := m.step
			if r.IntN(10) == 0 {
				does = m.someUse
			}
			call, got, want := does(r, p)
			answers(t, call, got, want)
			m.alike(t, p)
			if r.IntN(60) == 0 {
				p = opened(t, d, m.root)
				m.turn(map[int]int{free: used, dropped: used, blank: used, written: used})
				m.alike(t, p)
			}
			if t.Failed() {
				t.Fatalf("row %d, behind %s", row, call)
			}
		}
	}
}
