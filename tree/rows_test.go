package tree_test

import (
	"fmt"
	"maps"
	"math/rand/v2"
	"slices"
	"strings"
	"testing"

	"tollgate/api"
	"tollgate/pager"
	"tollgate/tree"
)

// mind are cells in mind.
type mind map[string]string

// between are the cells between two keys.
func (m mind) between(from, to string) []tree.Cell {
	var l []tree.Cell
	for _, k := range slices.Sorted(maps.Keys(m)) {
		if k >= from && (to == "" || k < to) {
			l = append(l, tree.Cell{Key: k, Value: m[k]})
		}
	}
	return l
}

// sort is a sort of cells that are put.
type sort struct {
	name  string
	key   func(r *rand.Rand) string
	value func(r *rand.Rand) string
}

// letters are n letters, of a few.
func letters(r *rand.Rand, n, few int) string {
	b := make([]byte, n)
	for i := range b {
		b[i] = byte('a' + r.IntN(few))
	}
	return string(b)
}

// sorts are sorts of cells: short and long keys, with common beginnings, with any bytes; short and long values.
var sorts = []sort{
	{"short", func(r *rand.Rand) string { return letters(r, 1+r.IntN(2), 20) }, func(r *rand.Rand) string { return letters(r, r.IntN(3), 5) }},
	{"long", func(r *rand.Rand) string { return fmt.Sprintf("%s%04d", strings.Repeat("k", 36), r.IntN(400)) }, func(r *rand.Rand) string { return strings.Repeat("v", 100) }},
	{"mixed", func(r *rand.Rand) string { return letters(r, 1+r.IntN(40), 2) }, func(r *rand.Rand) string { return letters(r, r.IntN(101), 3) }},
	{"long keys", func(r *rand.Rand) string { return fmt.Sprintf("%03d", r.IntN(500)) + strings.Repeat("z", 37) }, func(r *rand.Rand) string { return "" }},
	{"many", func(r *rand.Rand) string { return fmt.Sprintf("%c%x", 'a'+r.IntN(3), r.IntN(900)) }, func(r *rand.Rand) string { return letters(r, r.IntN(2)*100, 1) }},
	{"any bytes", func(r *rand.Rand) string {
		return string([]byte{byte(r.IntN(256)), byte(r.IntN(3))}) + strings.Repeat("\x00", r.IntN(3))
	}, func(r *rand.Rand) string { return string([]byte{byte(r.IntN(256)), 0, 0xff}) }},
}

// bed is a tree on a pager, with the cells that it should have now, and those of its last commit.
type bed struct {
	p    *pager.Pager
	x    *tree.Tree
	m    mind
	kept mind
}

func newBed(t testing.TB, pages int) *bed {
	t.Helper()
	_, p, x := planted(t, pages)
	return &bed{p, x, mind{}, mind{}}
}

// full asks whether a call was refused for want of room, and whether it may have been: then nothing has changed.
func (b *bed) full(t testing.TB, call string, e api.Errno, root, free int) bool {
	t.Helper()
	if e == api.ErrFull {
		if free >= tree.Spare || b.x.Root() != root || b.p.Free() != free {
			t.Errorf("%s: ErrFull of %d pages; behind it %d, root %d, not %d", call, free, b.p.Free(), b.x.Root(), root)
		}
		return true
	}
	answers(t, call, e, api.OK)
	if free-b.p.Free() > tree.Spare {
		t.Errorf("%s: %d pages", call, free-b.p.Free())
	}
	return false
}

func (b *bed) put(t testing.TB, key, value string) {
	t.Helper()
	root, free := b.x.Root(), b.p.Free()
	if !b.full(t, "Put", b.x.Put(key, value), root, free) {
		b.m[key] = value
	}
}

func (b *bed) del(t testing.TB, key string) {
	t.Helper()
	_, want := b.m[key]
	root, free := b.x.Root(), b.p.Free()
	was, e := b.x.Del(key)
	if b.full(t, "Del", e, root, free) {
		want = false
	} else {
		delete(b.m, key)
	}
	if was != want {
		t.Errorf("Del(%.50q): %v, not %v", key, was, want)
	}
}

// commit commits; behind it no page is lost.
func (b *bed) commit(t testing.TB) {
	t.Helper()
	seq := b.p.Seq()
	commit(t, b.x)
	b.kept = maps.Clone(b.m)
	if l := pagesOf(t, b.x); b.p.Free() != b.p.Pages()-2-len(l) || b.p.Root() != b.x.Root() || b.p.Seq() != seq+1 {
		t.Errorf("behind Commit: %d pages of %d, %d free; root %d, not %d; number %d", len(l), b.p.Pages(), b.p.Free(), b.p.Root(), b.x.Root(), b.p.Seq())
	}
}

func (b *bed) abort(t testing.TB) {
	t.Helper()
	abort(t, b.x)
	b.m = maps.Clone(b.kept)
	if l := pagesOf(t, b.x); b.p.Free() != b.p.Pages()-2-len(l) || b.p.Root() != b.x.Root() {
		t.Errorf("behind Abort: %d pages of %d, %d free; root %d, not %d", len(l), b.p.Pages(), b.p.Free(), b.p.Root(), b.x.Root())
	}
}

// alike asks that the tree is as it is in mind, and so is that of the last commit.
func (b *bed) alike(t testing.TB, r *rand.Rand, s sort) {
	t.Helper()
	ranges(t, b.x, "", "", b.m.between("", ""))
	from, to := s.key(r), s.key(r)
	ranges(t, b.x, from, to, b.m.between(from, to))
	if got := told(t, b.x, from); !slices.Equal(got, b.m.between(from, "")) {
		t.Errorf("Seq(%.50q): %d cells", from, len(got))
	}
	for _, k := range []string{from, to} {
		if v, ok := b.m[k]; ok {
			gets(t, b.x, k, v)
		} else {
			lacks(t, b.x, k, api.OK)
		}
	}
	old := made(t, b.p, b.p.Root())
	ranges(t, old, "", "", b.kept.between("", ""))
	b.pages(t, b.x, len(b.m))
	b.pages(t, old, len(b.kept))
}

// pages asks that a tree's pages are not too many, unlike, rising, and in use.
func (b *bed) pages(t testing.TB, x *tree.Tree, cells int) {
	t.Helper()
	l := pagesOf(t, x)
	most := 2*cells + 1
	if cells == 0 {
		most = 0
	}
	if len(l) > most || (x.Root() == 0) != (cells == 0) {
		t.Errorf("%d pages, root %d, of %d cells", len(l), x.Root(), cells)
	}
	if x.Root() != 0 && !slices.Contains(l, x.Root()) {
		t.Errorf("the root %d is none of %v", x.Root(), l)
	}
	for i, n := range l {
		if i > 0 && l[i-1] >= n {
			t.Errorf("pages %v", l)
		}
		if _, e := b.p.Read(n); e != api.OK {
			t.Errorf("page %d: %v", n, e)
		}
	}
}

// step does something, so that cells become more, or fewer.
func (b *bed) step(t testing.TB, r *rand.Rand, s sort, more bool) {
	t.Helper()
	switch n := r.IntN(100); {
	case n < 1:
		b.abort(t)
	case n < 5:
		b.commit(t)
	case n < 20 == more:
		k := s.key(r)
		if len(b.m) > 0 && r.IntN(4) > 0 { // one that is there
			l := b.m.between(k, "")
			if len(l) > 0 {
				k = l[0].Key
			}
		}
		b.del(t, k)
	default:
		b.put(t, s.key(r), s.value(r))
	}
}

// P5.1 to P5.5, P5.7, ErrFull: whatever is done, on small disks too, a tree is as it is in mind.
func TestRows(t *testing.T) {
	for i, s := range sorts {
		for _, pages := range []int{3, 4, 6, 9, 14, 25, 27, 30, 40, 80, 400} {
			r := rand.New(rand.NewPCG(5, uint64(1000*i+pages)))
			b := newBed(t, pages)
			for n := range 800 {
				b.step(t, r, s, n/150%2 == 0)
				if pages < 40 || n%7 == 0 {
					b.alike(t, r, s)
				}
				if t.Failed() {
					t.Fatalf("%s, %d pages, step %d", s.name, pages, n)
				}
			}
		}
	}
}

// orders are orders in which n things are taken.
func orders(r *rand.Rand, n int) map[string][]int {
	rising := make([]int, n)
	for i := range rising {
		rising[i] = i
	}
	falling := slices.Clone(rising)
	slices.Reverse(falling)
	var inward []int
	for i := range n {
		at := i / 2
		if i%2 == 1 {
			at = n - 1 - i/2
		}
		inward = append(inward, at)
	}
	return map[string][]int{"rising": rising, "falling": falling, "inward": inward, "any": r.Perm(n)}
}

// P5.4, P5.7: cells are put in one order, and taken away in another one, down to none.
func TestOrders(t *testing.T) {
	const n = 300
	r := rand.New(rand.NewPCG(5, 2))
	all := orders(r, n)
	key := func(i int) string { return fmt.Sprintf("%04d", i) + strings.Repeat("k", i%37) }
	for into, puts := range all {
		for out, dels := range all {
			for _, every := range []int{1, 50, 5000} { // behind how many calls is committed
				b := newBed(t, 2000)
				calls := 0
				then := func() {
					if calls++; calls%every == 0 {
						b.commit(t)
					}
					if calls%97 == 0 {
						ranges(t, b.x, "", "", b.m.between("", ""))
						b.pages(t, b.x, len(b.m))
					}
				}
				for _, i := range puts {
					b.put(t, key(i), strings.Repeat("v", i*7%101))
					then()
				}
				for _, i := range dels {
					b.del(t, key(i))
					then()
				}
				b.commit(t)
				if t.Failed() || b.x.Root() != 0 || b.p.Free() != 1998 {
					t.Fatalf("%s, %s, %d: root %d, free %d", into, out, every, b.x.Root(), b.p.Free())
				}
			}
		}
	}
}

// ErrFull, P5.7: the largest disk is filled with cells as large as they can be, thinned out, and filled again: the highest trees. No call takes more than Spare pages.
func TestLargest(t *testing.T) {
	b := newBed(t, api.MaxSectors/4)
	wide := func(i int) string { return fmt.Sprintf("%08d", i) + strings.Repeat("k", 32) }
	fill := func(from, left int) {
		for i := from; b.p.Free() >= left; i += 4 {
			b.put(t, wide(i), strings.Repeat("v", 100))
		}
		b.commit(t)
		b.pages(t, b.x, len(b.m))
	}
	fill(0, 3000)
	cells := len(b.m)
	for n, i := range rand.New(rand.NewPCG(5, 3)).Perm(cells) {
		if i%9 > 0 {
			b.del(t, wide(4*i))
		}
		if n%400 == 0 {
			b.commit(t)
		}
	}
	b.pages(t, b.x, len(b.m))
	if len(b.m) != (cells+8)/9 {
		t.Errorf("%d cells of %d", len(b.m), cells)
	}
	fill(1, tree.Spare)
	if len(b.m) < 16000 {
		t.Errorf("%d cells", len(b.m))
	}
	ranges(t, b.x, "", "", b.m.between("", ""))
}

// ErrFull: on disks with little room what was taken is written again; what is kept needs room to be changed.
func TestLittleRoom(t *testing.T) {
	_, p, x := planted(t, 3)
	whole := strings.Repeat("v", 100)
	l := cells("a"+whole[:39], whole, "b"+whole[:39], whole, "c"+whole[:39], whole)
	for range 3 {
		for _, c := range l {
			put(t, x, c.Key, c.Value)
		}
	}
	answers(t, "Put of one more", x.Put("d"+whole[:39], whole), api.ErrFull)
	ranges(t, x, "", "", l)
	for _, c := range l {
		del(t, x, c.Key, true)
	}
	put(t, x, "a", "1")
	commit(t, x)
	answers(t, "Put", x.Put("a", "2"), api.ErrFull)
	answers(t, "Put", x.Put("b", "2"), api.ErrFull)
	del(t, x, "b", false)
	ranges(t, x, "", "", cells("a", "1"))
	del(t, x, "a", true) // no page is needed for no cells
	commit(t, x)
	if p.Free() != 1 || x.Root() != 0 {
		t.Errorf("free %d, root %d", p.Free(), x.Root())
	}
	put(t, x, "a", "2")
	commit(t, x)
	ranges(t, x, "", "", cells("a", "2"))
}

// P5.5: the tree of the last commit is read all the while, by trees that were made before and behind the changes.
func TestOld(t *testing.T) {
	r := rand.New(rand.NewPCG(5, 4))
	for _, s := range sorts {
		b := newBed(t, 150)
		for range 5 {
			for range 60 {
				b.put(t, s.key(r), s.value(r))
			}
			b.commit(t)
			before := made(t, b.p, b.p.Root())
			want := b.kept.between("", "")
			for n := range 200 { // down to few, and up again
				if n < 100 {
					if l := b.m.between("", ""); len(l) > 0 {
						b.del(t, l[r.IntN(len(l))].Key)
					}
				} else {
					b.put(t, s.key(r), s.value(r))
				}
				ranges(t, before, "", "", want)
				if n%20 == 0 {
					behind := made(t, b.p, b.p.Root())
					ranges(t, behind, "", "", want)
					for _, c := range want {
						gets(t, behind, c.Key, c.Value)
					}
					b.pages(t, behind, len(want))
				}
			}
			if t.Failed() {
				t.Fatal(s.name)
			}
		}
	}
}

// P5.3: Commit keeps, Abort undoes, with nothing done too; the tree of New is that to which the first Abort leads.
func TestCommitAbort(t *testing.T) {
	_, p, x := planted(t, 100)
	put(t, x, "a", "1")
	abort(t, x)
	lacks(t, x, "a", api.OK)
	if x.Root() != 0 || p.Free() != 98 {
		t.Errorf("root %d, free %d", x.Root(), p.Free())
	}
	for range 3 {
		commit(t, x)
		abort(t, x)
	}
	put(t, x, "a", "1")
	commit(t, x)
	root, seq := x.Root(), p.Seq()
	y := made(t, p, root)
	del(t, y, "a", true)
	if y.Root() != 0 {
		t.Errorf("root %d", y.Root())
	}
	put(t, y, "b", "2")
	abort(t, y)
	gets(t, y, "a", "1")
	lacks(t, y, "b", api.OK)
	if y.Root() != root || p.Root() != root || p.Seq() != seq || p.Free() != 97 {
		t.Errorf("roots %d, %d, number %d, free %d", y.Root(), p.Root(), p.Seq(), p.Free())
	}
	del(t, y, "a", true)
	commit(t, y)
	if p.Root() != 0 || p.Free() != 98 {
		t.Errorf("root %d, free %d", p.Root(), p.Free())
	}
}
