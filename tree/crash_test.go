package tree_test

import (
	"fmt"
	"maps"
	"math/rand/v2"
	"slices"
	"strings"
	"testing"

	"tollgate/api"
	"tollgate/disk"
	"tollgate/tree"
)

// base is a disk with a tree that was committed more than once, of so many cells.
func base(t testing.TB, cells int) (*disk.Disk, mind) {
	t.Helper()
	d, _, x := planted(t, 60)
	m := mind{}
	commit(t, x)
	for i := range cells {
		k, v := fmt.Sprintf("%02d", i)+strings.Repeat("k", i%30), strings.Repeat("v", 99)+string(rune('a'+i%26))
		put(t, x, k, v)
		m[k] = v
		if i%5 == 0 {
			commit(t, x)
		}
	}
	commit(t, x)
	return d, m
}

// change is something that is done to a tree, and in mind.
type change struct {
	name string
	do   func(x *tree.Tree, m mind) api.Errno
}

// putAll puts cells, up to the first one that is refused.
func putAll(x *tree.Tree, m mind, l []tree.Cell) api.Errno {
	for _, c := range l {
		if e := x.Put(c.Key, c.Value); e != api.OK {
			return e
		}
		m[c.Key] = c.Value
	}
	return api.OK
}

// delAll takes cells away, up to the first one that is refused.
func delAll(x *tree.Tree, m mind, l []tree.Cell) api.Errno {
	for _, c := range l {
		if _, e := x.Del(c.Key); e != api.OK {
			return e
		}
		delete(m, c.Key)
	}
	return api.OK
}

// changes are changes of one cell, of several ones, of all, and of what was aborted.
var changes = []change{
	{"nothing", func(x *tree.Tree, m mind) api.Errno { return api.OK }},
	{"a cell", func(x *tree.Tree, m mind) api.Errno { return putAll(x, m, cells("05", "new")) }},
	{"some", func(x *tree.Tree, m mind) api.Errno {
		l := m.between("", "")
		if e := delAll(x, m, l[:min(4, len(l))]); e != api.OK {
			return e
		}
		return putAll(x, m, cells("a", "1", "09", strings.Repeat("w", 100), "b", "2", "a", "3"))
	}},
	{"all are gone", func(x *tree.Tree, m mind) api.Errno { return delAll(x, m, m.between("", "")) }},
	{"aborted", func(x *tree.Tree, m mind) api.Errno {
		if e := putAll(x, mind{}, cells("c", "1", "01", "2", "d", "3")); e != api.OK {
			return e
		}
		if e := x.Abort(); e != api.OK {
			return e
		}
		return putAll(x, m, cells("e", "4"))
	}},
}

// plans are plans of n writes: none of them kept, all, the first ones, the last ones, any; some with one torn.
func plans(r *rand.Rand, n int) []disk.Plan {
	keeps := [][]bool{nil}
	for _, ahead := range []int{0, 1, 2, 3, r.IntN(n + 1), n} {
		first, last := make([]bool, n), make([]bool, n)
		for i := range n {
			first[i], last[i] = i < ahead, i >= ahead
		}
		keeps = append(keeps, first, last)
	}
	for range 3 {
		some := make([]bool, n)
		for i := range some {
			some[i] = r.IntN(2) == 0
		}
		keeps = append(keeps, some)
	}
	var all []disk.Plan
	for _, keep := range keeps {
		all = append(all, disk.Plan{Keep: keep, Torn: -1}, disk.Plan{Keep: keep, Torn: r.IntN(n + 1), Cut: r.IntN(api.SectorSize + 1)})
		all = append(all, disk.Plan{Keep: keep, Torn: 0, Cut: r.IntN(48)}) // of a meta these bytes are not 0
	}
	return all
}

// is asks that a tree that was opened has these cells, and just its pages in use.
func is(t testing.TB, d *disk.Disk, may ...mind) mind {
	t.Helper()
	p, x := opened(t, d)
	got := told(t, x, "")
	i := slices.IndexFunc(may, func(m mind) bool { return slices.Equal(m.between("", ""), got) })
	if i < 0 {
		t.Fatalf("%d cells: %.300q", len(got), got)
	}
	l := pagesOf(t, x)
	if p.Free() != p.Pages()-2-len(l) || len(l) > 2*len(got)+1 {
		t.Errorf("%d pages, %d free, %d cells", len(l), p.Free(), len(got))
	}
	return may[i]
}

// goesOn asks that a tree that was opened is changed and committed as any other one.
func goesOn(t testing.TB, d *disk.Disk, m mind) {
	t.Helper()
	_, x := opened(t, d)
	m = maps.Clone(m)
	for _, c := range changes {
		answers(t, c.name, c.do(x, m), api.OK)
		commit(t, x)
		ranges(t, x, "", "", m.between("", ""))
	}
	is(t, crashed(t, d, disk.Plan{Torn: -1}), m)
}

// P5.6: a change and its commit, crashed at each write and flush, by many plans: the cells from ahead of it, or those behind it; these alone, if it was told.
func TestCrashes(t *testing.T) {
	r := rand.New(rand.NewPCG(5, 6))
	for _, n := range []int{0, 1, 4, 20} {
		from, old := base(t, n)
		for _, c := range changes {
			whole := from.Copy()
			_, x := opened(t, whole)
			next := maps.Clone(old)
			ahead := whole.Done()
			answers(t, c.name, c.do(x, next), api.OK)
			data := whole.Done() - ahead
			commit(t, x)
			steps := whole.Done() - ahead
			for k := range steps + 1 {
				for i, plan := range plans(r, data+4) {
					d := from.Copy()
					_, x := opened(t, d)
					d.Fuse(k, plan)
					e := c.do(x, maps.Clone(old))
					if e == api.OK {
						e = x.Commit()
					}
					may, want := []mind{old, next}, api.ErrDead
					switch {
					case k <= data:
						may = may[:1] // the meta is not begun yet
					case k == steps:
						may, want = may[1:], api.OK
					}
					answers(t, c.name, e, want)
					d = crashed(t, d, plan)
					m := is(t, d, may...)
					if i%9 == 0 && k%5 == 0 {
						goesOn(t, d, m)
					}
					if t.Failed() {
						t.Fatalf("%d cells, %s, %d done of %d, by %v", n, c.name, k, steps, plan)
					}
				}
			}
		}
	}
}

// P5.6, P5.4: rows of changes and commits, crashed anywhere, opened, and gone on with.
func TestCrashRows(t *testing.T) {
	for i, s := range sorts {
		r := rand.New(rand.NewPCG(5, uint64(70+i)))
		for row := range 12 {
			d, p, x := planted(t, 20+r.IntN(80))
			b := &bed{p, x, mind{}, mind{}}
			b.commit(t)
			for life := range 12 {
				keep := make([]bool, r.IntN(200))
				for i := range keep {
					keep[i] = r.IntN(3) > 0
				}
				d.Fuse(r.IntN(1500), disk.Plan{Keep: keep, Torn: r.IntN(220) - 4, Cut: r.IntN(129)})
				may := b.live(t, r, s, d)
				d = crashed(t, d, disk.Plan{})
				m := is(t, d, may...)
				p, x := opened(t, d)
				b = &bed{p, x, maps.Clone(m), maps.Clone(m)}
				if t.Failed() {
					t.Fatalf("%s, row %d, life %d", s.name, row, life)
				}
			}
		}
	}
}

// live changes and commits a tree till its disk is dead; it tells what may be found then.
func (b *bed) live(t testing.TB, r *rand.Rand, s sort, d *disk.Disk) []mind {
	t.Helper()
	for {
		root := b.x.Root()
		var e api.Errno
		var commits bool
		switch n := r.IntN(30); {
		case n == 0:
			commits = true
			if e = b.x.Commit(); e == api.OK {
				b.kept = maps.Clone(b.m)
			}
		case n == 1:
			if e = b.x.Abort(); e == api.OK {
				b.m = maps.Clone(b.kept)
			}
		case n < 10:
			l := append(b.m.between(s.key(r), ""), tree.Cell{Key: "none"})
			e = delAll(b.x, b.m, l[:1])
		default:
			e = putAll(b.x, b.m, []tree.Cell{{Key: s.key(r), Value: s.value(r)}})
		}
		if !d.Dead() {
			if e != api.OK && e != api.ErrFull {
				t.Fatalf("a call: %v", e)
			}
			continue
		}
		if e != api.ErrDead || b.x.Root() != root {
			t.Fatalf("the call by the fuse: %v, root %d, not %d", e, b.x.Root(), root)
		}
		if b.x.Root() != 0 {
			refusesAll(t, b.x, api.ErrDead)
		}
		if commits {
			return []mind{b.kept, b.m}
		}
		return []mind{b.kept}
	}
}
