package pager_test

import (
	"bytes"
	"math/rand/v2"
	"slices"
	"testing"

	"tollgate/api"
	"tollgate/disk"
	"tollgate/page"
	"tollgate/pager"
)

// state is how the pages stand behind a commit: its root, and what those read as that are used.
type state struct {
	root int
	says map[int]string
}

// list are the pages that are used.
func (s state) list() []int {
	var l []int
	for n := range s.says {
		l = append(l, n)
	}
	slices.Sort(l)
	return l
}

// opens asks that a disk is opened in one of these states; it tells the pager, with the pages in use, and which one.
func opens(t testing.TB, d *disk.Disk, may ...state) (*pager.Pager, state) {
	t.Helper()
	p, root, e := pager.Open(d)
	if e != api.OK {
		t.Fatalf("Open: %v", e)
	}
	i := slices.IndexFunc(may, func(s state) bool { return s.root == root })
	if i < 0 {
		t.Fatalf("Open: root %d, not one of %v", root, may)
	}
	answers(t, "Use", p.Use(may[i].list()), api.OK)
	for n, want := range may[i].says {
		reads(t, p, n, want)
	}
	return p, may[i]
}

// goesOn asks that a pager in a state takes, writes and commits all pages that are free.
func goesOn(t testing.TB, d *disk.Disk, p *pager.Pager, s state) {
	t.Helper()
	next := state{s.root, map[int]string{}}
	for n, b := range s.says {
		next.says[n] = b
	}
	for n := 2; n < p.Pages(); n++ {
		if _, ok := s.says[n]; ok {
			continue
		}
		takes(t, p, n)
		write(t, p, n, "on")
		next.root, next.says[n] = n, "on"
	}
	full(t, p)
	seq := p.Seq()
	commit(t, p, next.root)
	stands(t, p, p.Pages(), 0, seq+1, next.root)
	q, _ := opens(t, crashed(t, d, disk.Plan{}), next)
	stands(t, q, p.Pages(), 0, seq+1, next.root)
}

// The transaction that is crashed: the page 2 and the page 4 stay as they are, the page 3 is dropped, 5 and 6 are new.
var (
	old    = state{4, map[int]string{2: "two", 3: "three", 4: "four"}}
	behind = state{6, map[int]string{2: "two", 4: "four", 5: "five", 6: "six"}}
)

// steps are how many writes and flushes the transaction makes; the first flush is behind the data.
const (
	data  = 8
	steps = data + 6
)

// transact makes the transaction, up to the first call that is refused.
func transact(p *pager.Pager) api.Errno {
	for range 2 {
		if _, e := p.Alloc(); e != api.OK {
			return e
		}
	}
	for _, n := range []int{5, 6} {
		if e := p.Write(n, []byte(behind.says[n])); e != api.OK {
			return e
		}
	}
	if e := p.Drop(3); e != api.OK {
		return e
	}
	return p.Commit(6)
}

// bases are disks of 8 pages that stand in the state old, reached in several ways.
func bases(t testing.TB) map[string]*disk.Disk {
	t.Helper()
	all := map[string]*disk.Disk{}
	for before := range 4 { // commits ahead of the last one
		d, p := formatted(t, 32)
		for range before {
			commit(t, p, 0)
		}
		takes(t, p, 2, 3, 4)
		for n, b := range old.says {
			write(t, p, n, b)
		}
		commit(t, p, 4)
		all[string(rune('0'+before))+" commits ahead"] = d

		// The same, with the next commit torn once.
		c := d.Copy()
		q, _ := opens(t, c, old)
		c.Fuse(data+3, disk.Plan{Keep: []bool{false, true}, Torn: 0, Cut: 33})
		answers(t, "the transaction by the fuse", transact(q), api.ErrDead)
		all[string(rune('0'+before))+" commits ahead, and a torn one"] = crashed(t, c, disk.Plan{})
	}
	return all
}

// metaPlans are all plans of four writes: each set of them kept, each one torn; the first one, in which a meta stands, is cut anywhere.
func metaPlans() []disk.Plan {
	var all []disk.Plan
	for bits := range 1 << 4 {
		keep := make([]bool, 4)
		for i := range keep {
			keep[i] = bits>>i&1 == 1
		}
		all = append(all, disk.Plan{Keep: keep, Torn: -1})
		for cut := range api.SectorSize + 1 {
			all = append(all, disk.Plan{Keep: keep, Torn: 0, Cut: cut})
		}
		for torn := 1; torn < 4; torn++ {
			for _, cut := range []int{0, 1, 64, 127, 128} {
				all = append(all, disk.Plan{Keep: keep, Torn: torn, Cut: cut})
			}
		}
	}
	return all
}

// dataPlans are plans of more writes than a transaction makes: the first ones kept, the last ones, all but one, one alone, any.
func dataPlans(r *rand.Rand) []disk.Plan {
	const most = steps
	var keeps [][]bool
	for i := range most + 1 {
		first, last, but, one := make([]bool, most), make([]bool, most), make([]bool, most), make([]bool, most)
		for k := range most {
			first[k], last[k], but[k], one[k] = k < i, k >= i, k != i, k == i
		}
		keeps = append(keeps, first, last, but, one)
	}
	for range 20 {
		some := make([]bool, most)
		for k := range some {
			some[k] = r.IntN(2) == 0
		}
		keeps = append(keeps, some)
	}
	var all []disk.Plan
	for _, keep := range keeps {
		all = append(all, disk.Plan{Keep: keep, Torn: -1}, disk.Plan{Keep: keep, Torn: r.IntN(most), Cut: r.IntN(api.SectorSize + 1)})
	}
	return all
}

// P4.4: a transaction that is crashed at each of its writes and flushes, by many plans: all of it is there, or none.
func TestCrashes(t *testing.T) {
	some, all := dataPlans(rand.New(rand.NewPCG(4, 4))), metaPlans()
	for name, base := range bases(t) {
		for k := range steps {
			plans := some
			if k > data {
				plans = slices.Concat(some, all)
			}
			for _, plan := range plans {
				d := base.Copy()
				p, _ := opens(t, d, old)
				d.Fuse(k, plan)
				answers(t, "the transaction by the fuse", transact(p), api.ErrDead)
				may := []state{old, behind}
				if k <= data { // the meta is not begun yet
					may = may[:1]
				}
				r := crashed(t, d, plan)
				q, s := opens(t, r, may...)
				if k%3 == 0 {
					goesOn(t, r, q, s)
				}
				if t.Failed() {
					t.Fatalf("%s, %d done, by %v", name, k, plan)
				}
			}
		}
	}
}

// P4.4: what was told stays, whatever is kept of what was written behind it; none of that is there without its commit.
func TestCrashBehind(t *testing.T) {
	for name, base := range bases(t) {
		for _, plan := range dataPlans(rand.New(rand.NewPCG(4, 5))) {
			d := base.Copy()
			p, _ := opens(t, d, old)
			answers(t, "the transaction", transact(p), api.OK)
			opens(t, crashed(t, d.Copy(), plan), behind)

			takes(t, p, 3, 7) // the page 3 was dropped
			write(t, p, 3, "anew")
			write(t, p, 7, "anew")
			answers(t, "Drop", p.Drop(6), api.OK)
			answers(t, "Drop", p.Drop(2), api.OK)
			r := crashed(t, d, plan)
			q, s := opens(t, r, behind)
			goesOn(t, r, q, s)
			if t.Failed() {
				t.Fatalf("%s, by %v", name, plan)
			}
		}
	}
}

// P4.4: the first commit behind Format, crashed at each of its writes and flushes: its root, or 0.
func TestCrashFirst(t *testing.T) {
	first := state{2, map[int]string{2: "a"}}
	for k := range 11 {
		for _, plan := range metaPlans() {
			d, p := formatted(t, 16)
			d.Fuse(k, plan)
			takes(t, p, 2)
			e := p.Write(2, []byte("a"))
			if e == api.OK {
				e = p.Commit(2)
			}
			may := []state{{}, first}
			want := api.ErrDead
			if k <= 4 {
				may = may[:1]
			}
			if k == 10 {
				may, want = may[1:], api.OK
			}
			answers(t, "the first commit", e, want)
			opens(t, crashed(t, d, plan), may...)
			if t.Failed() {
				t.Fatalf("%d done, by %v", k, plan)
			}
		}
	}
}

// found is what is in mind when a disk was opened again in the state of m: all is free that was not used.
func (m *mind) found(t testing.TB, d *disk.Disk) *mind {
	t.Helper()
	m = m.copied()
	for n := range m.kind {
		if m.kind[n] == used {
			continue
		}
		m.kind[n], m.says[n] = free, nil
		if b, e := page.Decode(n, raw(t, d, n)); e == api.OK {
			s := string(b)
			m.says[n] = &s
		}
	}
	return m
}

// users are the pages that are used in mind.
func (m *mind) users() []int {
	var l []int
	for n, k := range m.kind {
		if k == used {
			l = append(l, n)
		}
	}
	return l
}

// P4.4, P4.5: whatever is done, and crashed, again and again, a pager is that of the last commit that was told, or of the one under way.
// (Each row begins with a commit: the numbers that Format gives its metas are such that a torn first commit may be followed by one that goes over the only sound meta.)
func TestCrashRows(t *testing.T) {
	r := rand.New(rand.NewPCG(4, 6))
	for row := range 400 {
		size := 3 + r.IntN(8)
		d, p := formatted(t, 4*size)
		commit(t, p, 0)
		m := &mind{seq: 2, kind: make([]int, size), says: make([]*string, size)}
		last := m.copied()
		for range 12 {
			keep := make([]bool, r.IntN(20))
			for i := range keep {
				keep[i] = r.IntN(3) > 0
			}
			d.Fuse(r.IntN(80), disk.Plan{Keep: keep, Torn: r.IntN(24) - 4, Cut: r.IntN(60)})
			may := []*mind{last}
			for !d.Dead() {
				ahead := m.seq
				call, got, want := m.step(r, p)
				switch {
				case got == api.ErrDead && m.seq > ahead:
					may = append(may, m)
				case got != want && got != api.ErrDead:
					t.Fatalf("row %d: %s: %v, not %v", row, call, got, want)
				case m.seq > ahead:
					last = m.copied()
					may[0] = last
				}
			}
			d = crashed(t, d, disk.Plan{})
			m, p = findAgain(t, d, may)
			last = m.copied()
			if t.Failed() {
				t.Fatalf("row %d", row)
			}
		}
	}
}

// findAgain asks that a disk is opened as it was in one of these minds; it tells that one, and the pager.
func findAgain(t testing.TB, d *disk.Disk, may []*mind) (*mind, *pager.Pager) {
	t.Helper()
	p, root, e := pager.Open(d)
	if e != api.OK {
		t.Fatalf("Open: %v", e)
	}
	i := slices.IndexFunc(may, func(m *mind) bool { return m.seq == p.Seq() && m.root == root })
	if i < 0 {
		t.Fatalf("Open: number %d, root %d", p.Seq(), root)
	}
	m := may[i].found(t, d)
	answers(t, "Use", p.Use(m.users()), api.OK)
	m.alike(t, p)
	return m, p
}

// P4.4: a meta that was torn anywhere is the new one, the old one, or none; whatever numbers and roots the two have.
func TestTornMetas(t *testing.T) {
	for _, seq := range []uint64{2, 255, 256, 1 << 32, 1<<40 - 1} {
		for _, roots := range [][2]uint64{{0, 0}, {2, 2}, {2, 3}, {5, 0}, {0, 5}} {
			n := int(seq % 2)
			before := encoded(t, n, says("tollgate", seq, roots[0], seq))
			after := encoded(t, n, says("tollgate", seq+2, roots[1], seq+2))
			other := encoded(t, 1-n, says("tollgate", seq+1, 4, seq+1))
			for cut := range 129 {
				torn := append(bytes.Clone(after[:cut]), before[cut:]...)
				metas := [2][]byte{}
				metas[n], metas[1-n] = torn, other
				root, at := 4, int(seq)+1
				if bytes.Equal(torn, after) {
					root, at = int(roots[1]), int(seq)+2
				}
				stands(t, opened(t, stored(t, metas[0], metas[1]), root), 6, 0, at, root)
			}
		}
	}
}
