package tree_test

import (
	"fmt"
	"math/rand/v2"
	"slices"
	"strings"
	"testing"

	"tollgate/api"
	"tollgate/disk"
	"tollgate/page"
	"tollgate/pager"
	"tollgate/tree"
)

// calls makes each call: none panics, all end, and beside an error nothing is told. What is told is in order.
func calls(t testing.TB, x *tree.Tree, keys ...string) {
	t.Helper()
	for _, k := range keys {
		if v, ok, e := x.Get(k); e != api.OK && (v != "" || ok) {
			t.Errorf("Get: %q, %v beside %v", v, ok, e)
		}
		l, e := x.Range(k, "")
		if e != api.OK && len(l) > 0 {
			t.Errorf("Range: %d cells beside %v", len(l), e)
		}
		for i := range l {
			if i > 0 && l[i-1].Key >= l[i].Key {
				t.Errorf("Range: %q ahead of %q", l[i-1].Key, l[i].Key)
			}
		}
		seq, e := x.Seq(k)
		if (e != api.OK) != (seq == nil) {
			t.Errorf("Seq beside %v", e)
		}
		if seq != nil {
			for range seq {
			}
		}
		pages, e := x.Pages()
		if e != api.OK && len(pages) > 0 {
			t.Errorf("Pages: %v beside %v", pages, e)
		}
		for i := range pages {
			if i > 0 && pages[i-1] >= pages[i] {
				t.Errorf("Pages: %v", pages)
			}
		}
		root := x.Root()
		if e := x.Put(k, strings.Repeat("w", 100)); e != api.OK && x.Root() != root {
			t.Errorf("Put: root %d, not %d, beside %v", x.Root(), root, e)
		}
		root = x.Root()
		if was, e := x.Del(k); e != api.OK && (was || x.Root() != root) {
			t.Errorf("Del: %v, root %d, not %d, beside %v", was, x.Root(), root, e)
		}
	}
}

// grown is a tree of so many cells, on some levels, all of whose pages were taken, and none is committed yet.
func grown(t testing.TB, cells int) (*disk.Disk, *pager.Pager, *tree.Tree) {
	t.Helper()
	d, p, x := planted(t, 300)
	for i := range cells {
		put(t, x, fmt.Sprintf("%02d", i)+strings.Repeat("k", 38), strings.Repeat("v", 100))
	}
	return d, p, x
}

var some = []string{"00", "05" + strings.Repeat("k", 38), "30" + strings.Repeat("k", 38), "31", "59" + strings.Repeat("k", 38), "z"}

// R1: pages of a tree that somebody else wrote.
func TestWritten(t *testing.T) {
	r := rand.New(rand.NewPCG(5, 20))
	for row := range 1500 {
		_, p, x := grown(t, 60)
		l := pagesOf(t, x)
		for range 1 + r.IntN(3) {
			n, from := l[r.IntN(len(l))], l[r.IntN(len(l))]
			if r.IntN(3) == 0 {
				n = x.Root()
			}
			b, e := p.Read(from)
			answers(t, "Read", e, api.OK)
			switch r.IntN(4) {
			case 0:
				for range 1 + r.IntN(4) {
					b[r.IntN(len(b))] = byte(r.IntN(256))
				}
			case 1:
				b = b[:r.IntN(len(b)+1)]
			case 2:
				for i := range b {
					b[i] = byte(r.IntN(256))
				}
			}
			answers(t, "Write", p.Write(n, b), api.OK)
		}
		calls(t, x, some...)
		calls(t, made(t, p, l[r.IntN(len(l))]), some...)
		x.Commit()
		calls(t, x, some...)
		x.Abort()
		if t.Failed() {
			t.Fatalf("row %d", row)
		}
	}
}

// R1: pages of a tree that somebody else dropped, or took; commits and aborts of somebody else.
func TestDropped(t *testing.T) {
	r := rand.New(rand.NewPCG(5, 21))
	for row := range 600 {
		_, p, x := grown(t, 60)
		if r.IntN(2) == 0 {
			commit(t, x)
		}
		other := made(t, p, p.Root())
		for range 12 {
			if l, e := x.Pages(); e == api.OK && len(l) > 0 && r.IntN(2) == 0 {
				p.Drop(l[r.IntN(len(l))])
			}
			switch r.IntN(8) {
			case 0:
				p.Commit(0)
			case 1:
				p.Commit(x.Root())
			case 2:
				p.Abort()
			case 3:
				n, _ := p.Alloc()
				if r.IntN(2) == 0 {
					p.Write(n, []byte("somebody else"))
				}
			case 4:
				other.Put(some[r.IntN(len(some))], "other")
			case 5:
				other.Commit()
			case 6:
				other.Abort()
			case 7:
				x.Commit()
			}
			calls(t, x, some[r.IntN(len(some))])
		}
		x.Abort()
		calls(t, x, some...)
		if t.Failed() {
			t.Fatalf("row %d", row)
		}
	}
}

// R1: pages that were changed on the disk, with their sums or without.
func TestChangedOnDisk(t *testing.T) {
	r := rand.New(rand.NewPCG(5, 22))
	for row := range 400 {
		d, p, x := grown(t, 60)
		commit(t, x)
		want := told(t, x, "")
		l := pagesOf(t, x)
		n := l[r.IntN(len(l))]
		if row%2 == 0 { // one byte of it, whose sum is wrong then
			at := 4*n + r.IntN(4)
			b, _ := d.Read(at)
			b[r.IntN(len(b))] ^= byte(1 + r.IntN(255))
			answers(t, "Write", d.Write(at, b), api.OK)
			for _, c := range want {
				if v, ok, e := x.Get(c.Key); e != api.ErrSum && (e != api.OK || !ok || v != c.Value) {
					t.Errorf("Get(%.10q): %.10q, %v, %v", c.Key, v, ok, e)
				}
			}
			if l, e := x.Pages(); len(l) > 0 || e != api.ErrSum {
				t.Errorf("Pages: %v, %v", l, e)
			}
			if l, e := x.Range("", ""); len(l) > 0 || e != api.ErrSum {
				t.Errorf("Range: %d cells, %v", len(l), e)
			}
			root, free := x.Root(), p.Free()
			for _, c := range want {
				if e := x.Put(c.Key, "new"); e != api.OK && e != api.ErrSum {
					t.Errorf("Put: %v", e)
				} else if e == api.ErrSum && (x.Root() != root || p.Free() != free) {
					t.Errorf("Put was refused: root %d, not %d, free %d, not %d", x.Root(), root, p.Free(), free)
				}
				root, free = x.Root(), p.Free()
			}
			continue
		}
		whole, _ := page.Encode(n, []byte(strings.Repeat("x", r.IntN(503))))
		for i := range 4 {
			answers(t, "Write", d.Write(4*n+i, whole[128*i:128*(i+1)]), api.OK)
		}
		if l, e := x.Pages(); len(l) > 0 || e != api.ErrForm {
			t.Errorf("Pages: %v, %v", l, e)
		}
		calls(t, x, some...)
		if t.Failed() {
			t.Fatalf("row %d", row)
		}
	}
}

// contents are what all pages of a tree hold.
func contents(t testing.TB, p *pager.Pager, l []int) []string {
	t.Helper()
	var all []string
	for _, n := range l {
		b, e := p.Read(n)
		answers(t, "Read", e, api.OK)
		all = append(all, string(b))
	}
	return all
}

// R4: a call that is refused for a page that it needs changes nothing; a call that does not need it is not refused.
func TestRefusedByPage(t *testing.T) {
	const cells = 24
	_, _, x := grown(t, cells)
	all, pages := told(t, x, ""), pagesOf(t, x)
	refused := 0
	for _, n := range pages {
		for _, c := range all {
			for _, del := range []bool{false, true} {
				_, p, x := grown(t, cells)
				whole := contents(t, p, []int{n})[0]
				answers(t, "Write", p.Write(n, []byte("none of a tree")), api.OK)
				root, free, before := x.Root(), p.Free(), contents(t, p, pages)
				_, _, get := x.Get(c.Key)
				was, e := false, api.OK
				if del {
					was, e = x.Del(c.Key)
				} else {
					e = x.Put(c.Key, "short")
				}
				if e == api.OK && get == api.OK && was == del {
					continue
				}
				refused++
				if e != api.ErrForm || was || x.Root() != root || p.Free() != free || !slices.Equal(contents(t, p, pages), before) {
					t.Fatalf("page %d, %.2q: %v, %v; root %d, not %d, free %d, not %d", n, c.Key, e, was, x.Root(), root, p.Free(), free)
				}
				answers(t, "Write", p.Write(n, []byte(whole)), api.OK)
				ranges(t, x, "", "", all)
			}
		}
	}
	if refused < 2*cells || refused > 2*cells*len(pages)/2 {
		t.Errorf("%d calls were refused, of %d cells on %d pages", refused, cells, len(pages))
	}
}
