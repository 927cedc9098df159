package tree_test

import (
	"slices"
	"strings"
	"testing"

	"tollgate/api"
	"tollgate/disk"
	"tollgate/pager"
	"tollgate/tree"
)

// formatted is a disk of so many pages, with a pager.
func formatted(t testing.TB, pages int) (*disk.Disk, *pager.Pager) {
	t.Helper()
	d, e := disk.New(4 * pages)
	if e != api.OK {
		t.Fatalf("New of %d pages: %v", pages, e)
	}
	p, e := pager.Format(d)
	if e != api.OK {
		t.Fatalf("Format: %v", e)
	}
	return d, p
}

// made is the tree with this root.
func made(t testing.TB, p *pager.Pager, root int) *tree.Tree {
	t.Helper()
	x, e := tree.New(p, root)
	if e != api.OK || x == nil {
		t.Fatalf("New(%d): %v", root, e)
	}
	if x.Root() != root {
		t.Errorf("Root: %d, not %d", x.Root(), root)
	}
	return x
}

// planted is an empty tree on a new disk of so many pages.
func planted(t testing.TB, pages int) (*disk.Disk, *pager.Pager, *tree.Tree) {
	t.Helper()
	d, p := formatted(t, pages)
	return d, p, made(t, p, 0)
}

// crashed is what is left of a disk by a plan.
func crashed(t testing.TB, d *disk.Disk, plan disk.Plan) *disk.Disk {
	t.Helper()
	if !d.Dead() {
		answers(t, "Crash", d.Crash(plan), api.OK)
	}
	r, e := d.Reopen()
	if e != api.OK {
		t.Fatalf("Reopen: %v", e)
	}
	return r
}

// opened is the tree that was committed on a disk last, with its pages in use.
func opened(t testing.TB, d *disk.Disk) (*pager.Pager, *tree.Tree) {
	t.Helper()
	p, root, e := pager.Open(d)
	if e != api.OK {
		t.Fatalf("Open: %v", e)
	}
	x := made(t, p, root)
	l, e := x.Pages()
	if e != api.OK {
		t.Fatalf("Pages: %v", e)
	}
	answers(t, "Use", p.Use(l), api.OK)
	return p, x
}

// answers asks that a call answers this error.
func answers(t testing.TB, call string, got, want api.Errno) {
	t.Helper()
	if got != want {
		t.Errorf("%s: %d, not %d", call, got, want)
	}
}

// gets asks that a key has this value.
func gets(t testing.TB, x *tree.Tree, key, want string) {
	t.Helper()
	if v, ok, e := x.Get(key); v != want || !ok || e != api.OK {
		t.Errorf("Get(%.50q): %.50q, %v, %v, not %.50q", key, v, ok, e, want)
	}
}

// lacks asks that a key has no value, or that this error is answered.
func lacks(t testing.TB, x *tree.Tree, key string, want api.Errno) {
	t.Helper()
	if v, ok, e := x.Get(key); v != "" || ok || e != want {
		t.Errorf("Get(%.50q): %.50q, %v, %v, not %v", key, v, ok, e, want)
	}
}

func put(t testing.TB, x *tree.Tree, key, value string) {
	t.Helper()
	answers(t, "Put", x.Put(key, value), api.OK)
}

func del(t testing.TB, x *tree.Tree, key string, want bool) {
	t.Helper()
	if was, e := x.Del(key); was != want || e != api.OK {
		t.Errorf("Del(%.50q): %v, %v, not %v", key, was, e, want)
	}
}

func commit(t testing.TB, x *tree.Tree) {
	t.Helper()
	answers(t, "Commit", x.Commit(), api.OK)
}

func abort(t testing.TB, x *tree.Tree) {
	t.Helper()
	answers(t, "Abort", x.Abort(), api.OK)
}

// cells are cells of keys and values, one behind the other.
func cells(l ...string) []tree.Cell {
	var all []tree.Cell
	for i := 0; i < len(l); i += 2 {
		all = append(all, tree.Cell{Key: l[i], Value: l[i+1]})
	}
	return all
}

// ranges asks that these are the cells between two keys.
func ranges(t testing.TB, x *tree.Tree, from, to string, want []tree.Cell) {
	t.Helper()
	got, e := x.Range(from, to)
	if e != api.OK || !slices.Equal(got, want) {
		t.Errorf("Range(%.50q, %.50q): %d cells, %v, not %d: %.200q, not %.200q", from, to, len(got), e, len(want), got, want)
	}
}

// told are the cells that an iterator tells.
func told(t testing.TB, x *tree.Tree, from string) []tree.Cell {
	t.Helper()
	seq, e := x.Seq(from)
	if e != api.OK {
		t.Fatalf("Seq(%.50q): %v", from, e)
	}
	var all []tree.Cell
	for k, v := range seq {
		all = append(all, tree.Cell{Key: k, Value: v})
	}
	return all
}

// pagesOf are a tree's pages.
func pagesOf(t testing.TB, x *tree.Tree) []int {
	t.Helper()
	l, e := x.Pages()
	if e != api.OK {
		t.Fatalf("Pages: %v", e)
	}
	return l
}

// Example 1.
func TestExampleCells(t *testing.T) {
	_, _, x := planted(t, 100)
	lacks(t, x, "a", api.OK)
	put(t, x, "a", "1")
	put(t, x, "b", "2")
	ranges(t, x, "", "", cells("a", "1", "b", "2"))
	ranges(t, x, "b", "", cells("b", "2"))
	ranges(t, x, "a", "b", cells("a", "1"))
	del(t, x, "a", true)
	del(t, x, "a", false)
	del(t, x, "b", true)
	if l := pagesOf(t, x); x.Root() != 0 || len(l) != 0 {
		t.Errorf("an empty tree: root %d, pages %v", x.Root(), l)
	}
}

// Example 2.
func TestExampleRefused(t *testing.T) {
	_, p, x := planted(t, 100)
	answers(t, "Put of no key", x.Put("", "x"), api.ErrArg)
	answers(t, "Put of a key of 41 bytes", x.Put(strings.Repeat("k", 41), "x"), api.ErrArg)
	answers(t, "Put of a value of 101 bytes", x.Put("a", strings.Repeat("v", 101)), api.ErrArg)
	if x, e := tree.New(p, 1); x != nil || e != api.ErrArg {
		t.Errorf("New(p, 1): %v, %v", x, e)
	}
	if x, e := tree.New(nil, 0); x != nil || e != api.ErrNil {
		t.Errorf("New(nil, 0): %v, %v", x, e)
	}
}

// Example 3.
func TestExampleOld(t *testing.T) {
	_, p, x := planted(t, 100)
	put(t, x, "a", "1")
	commit(t, x)
	old := x.Root()
	put(t, x, "a", "2")
	gets(t, made(t, p, old), "a", "1")
	gets(t, x, "a", "2")
	abort(t, x)
	gets(t, x, "a", "1")
}

// P5.1: which roots there may be.
func TestRoots(t *testing.T) {
	_, p := formatted(t, 6)
	for _, root := range []int{-1 << 63, -2, -1, 1, 6, 7, 1 << 14, 1<<32 + 3, 1<<62 + 2, 1<<63 - 1} {
		if x, e := tree.New(p, root); x != nil || e != api.ErrArg {
			t.Errorf("New(p, %d): %v, %v", root, x, e)
		}
		if x, e := tree.New(nil, root); x != nil || e != api.ErrNil {
			t.Errorf("New(nil, %d): %v, %v", root, x, e)
		}
	}
	for _, root := range []int{0, 2, 5} {
		made(t, p, root)
	}
}

// A nil tree.
func TestNil(t *testing.T) {
	var x *tree.Tree
	long := strings.Repeat("k", 1000)
	if x.Root() != 0 {
		t.Errorf("Root of nil: %d", x.Root())
	}
	for _, key := range []string{"", "a", long} {
		lacks(t, x, key, api.ErrNil)
		answers(t, "Put", x.Put(key, long), api.ErrNil)
		if was, e := x.Del(key); was || e != api.ErrNil {
			t.Errorf("Del: %v, %v", was, e)
		}
		if l, e := x.Range(key, long); len(l) != 0 || e != api.ErrNil {
			t.Errorf("Range: %v, %v", l, e)
		}
		if seq, e := x.Seq(key); seq != nil || e != api.ErrNil {
			t.Errorf("Seq: %v", e)
		}
	}
	if l, e := x.Pages(); len(l) != 0 || e != api.ErrNil {
		t.Errorf("Pages: %v, %v", l, e)
	}
	answers(t, "Commit", x.Commit(), api.ErrNil)
	answers(t, "Abort", x.Abort(), api.ErrNil)
}

// R1: trees and pagers that came out of no call.
func TestUnmade(t *testing.T) {
	on, e := tree.New(&pager.Pager{}, 0)
	if e != api.OK {
		t.Fatal(e)
	}
	for _, x := range []*tree.Tree{{}, on} {
		x.Root()
		x.Get("a")
		x.Put("a", "b")
		x.Del("a")
		x.Range("", "")
		x.Seq("")
		x.Pages()
		x.Commit()
		x.Abort()
		x.Put("a", "b")
	}
	tree.New(&pager.Pager{}, 2)
}

// The limits, and what is refused ahead of any look at the pages.
func TestLimits(t *testing.T) {
	_, p, x := planted(t, 60)
	keys := []string{"k", "\x00", "\xff", strings.Repeat("k", 40), strings.Repeat("\xff", 40), strings.Repeat("\x00", 40)}
	values := []string{"", "\x00", strings.Repeat("v", 100), strings.Repeat("\xff", 100)}
	for _, k := range keys {
		for _, v := range values {
			put(t, x, k, v)
			gets(t, x, k, v)
		}
	}
	before, root, free := told(t, x, ""), x.Root(), p.Free()
	if len(before) != len(keys) {
		t.Errorf("%d cells", len(before))
	}
	none := made(t, p, 50) // a page that is free
	for _, x := range []*tree.Tree{x, none} {
		for _, k := range []string{"", strings.Repeat("k", 41), strings.Repeat("k", 256+5), strings.Repeat("k", 1<<16+5)} {
			lacks(t, x, k, api.ErrArg)
			answers(t, "Put", x.Put(k, "v"), api.ErrArg)
			if was, e := x.Del(k); was || e != api.ErrArg {
				t.Errorf("Del: %v, %v", was, e)
			}
		}
		for _, n := range []int{101, 102, 256, 256 + 5, 1 << 16} {
			answers(t, "Put", x.Put("k", strings.Repeat("v", n)), api.ErrArg)
		}
	}
	if x.Root() != root || p.Free() != free {
		t.Errorf("root %d, free %d, not %d, %d", x.Root(), p.Free(), root, free)
	}
	ranges(t, x, "", "", before)
}

// refusesAll asks that each call that needs the root is refused so.
func refusesAll(t testing.TB, x *tree.Tree, want api.Errno) {
	t.Helper()
	root := x.Root()
	lacks(t, x, "a", want)
	answers(t, "Put", x.Put("a", "b"), want)
	if was, e := x.Del("a"); was || e != want {
		t.Errorf("Del: %v, %v, not %v", was, e, want)
	}
	if l, e := x.Range("", ""); len(l) != 0 || e != want {
		t.Errorf("Range: %v, %v, not %v", l, e, want)
	}
	if seq, e := x.Seq(""); seq != nil || e != want {
		t.Errorf("Seq: %v, not %v", e, want)
	}
	if l, e := x.Pages(); len(l) != 0 || e != want {
		t.Errorf("Pages: %v, %v, not %v", l, e, want)
	}
	if x.Root() != root {
		t.Errorf("Root: %d, not %d", x.Root(), root)
	}
}

// The errors of pages that are needed: those that are free, taken and not written, damaged, none of a tree; and of a dead disk.
func TestPageErrors(t *testing.T) {
	d, p, x := planted(t, 40)
	put(t, x, "a", "1")
	commit(t, x)
	root := x.Root()

	refusesAll(t, made(t, p, 30), api.ErrState)
	answers(t, "Commit at a free root", made(t, p, 30).Commit(), api.ErrState)
	n, e := p.Alloc()
	answers(t, "Alloc", e, api.OK)
	refusesAll(t, made(t, p, n), api.ErrNone)
	answers(t, "Commit at a blank root", made(t, p, n).Commit(), api.ErrState)
	for _, s := range []string{"", "a", "tollgate", "\x00", strings.Repeat("\x00", 502), strings.Repeat("\xff", 502)} {
		answers(t, "Write", p.Write(n, []byte(s)), api.OK)
		refusesAll(t, made(t, p, n), api.ErrForm)
	}
	answers(t, "Drop", p.Drop(n), api.OK)

	b, e := d.Read(4 * root)
	answers(t, "Read", e, api.OK)
	b[20]++
	answers(t, "Write", d.Write(4*root, b), api.OK)
	refusesAll(t, x, api.ErrSum)
	b[20]--
	answers(t, "Write", d.Write(4*root, b), api.OK)
	gets(t, x, "a", "1")

	answers(t, "Crash", d.Crash(disk.Plan{Torn: -1}), api.OK)
	refusesAll(t, x, api.ErrDead)
	answers(t, "Commit", x.Commit(), api.ErrDead)
	answers(t, "Abort", x.Abort(), api.ErrDead)
	answers(t, "Put of no key", x.Put("", ""), api.ErrArg)
	answers(t, "Put into an empty tree", made(t, p, 0).Put("a", "b"), api.ErrDead)
	lacks(t, made(t, p, 0), "a", api.OK) // no page is needed
}

// P5.2: where ranges begin and end.
func TestRange(t *testing.T) {
	_, _, x := planted(t, 200)
	var all []tree.Cell
	for i := range 60 {
		k := "k" + string([]byte{byte(4 * i), 'm'})
		v := strings.Repeat("v", 2*i%101)
		all = append(all, tree.Cell{Key: k, Value: v})
	}
	for i := range all {
		c := all[i*77%len(all)]
		put(t, x, c.Key, c.Value)
	}
	ends := []string{"", "\x00", "a", "k", "l", "\xff", strings.Repeat("k", 40), strings.Repeat("\xff", 500)}
	for _, c := range all {
		ends = append(ends, c.Key, c.Key+"\x00")
	}
	for _, from := range ends {
		for _, to := range ends {
			var want []tree.Cell
			for _, c := range all {
				if c.Key >= from && (to == "" || c.Key < to) {
					want = append(want, c)
				}
			}
			ranges(t, x, from, to, want)
		}
		want, _ := x.Range(from, "")
		if got := told(t, x, from); !slices.Equal(got, want) {
			t.Errorf("Seq(%q): %d cells, not %d", from, len(got), len(want))
		}
	}
}

// P5.2, R8: an iterator tells what was there, again and again, at once, and is left anywhere.
func TestSeq(t *testing.T) {
	_, _, x := planted(t, 200)
	for i := range 50 {
		put(t, x, "k"+string(rune('A'+i)), strings.Repeat("v", 100))
	}
	commit(t, x)
	want := told(t, x, "")
	seq, _ := x.Seq("")
	none, _ := x.Seq("z")
	for i := range 50 {
		if i%3 > 0 {
			del(t, x, "k"+string(rune('A'+i)), true)
		}
		put(t, x, "a"+string(rune('A'+i)), "new")
	}
	commit(t, x)
	for range 2 {
		var got []tree.Cell
		for k, v := range seq {
			got = append(got, tree.Cell{Key: k, Value: v})
			inner := 0
			for k, v := range seq { // another round, while this one is on
				if want[inner] != (tree.Cell{Key: k, Value: v}) {
					t.Fatalf("another round: %q", k)
				}
				if inner++; inner == len(got) {
					break
				}
			}
		}
		if !slices.Equal(got, want) {
			t.Errorf("a round: %d cells, not %d", len(got), len(want))
		}
	}
	for k := range none {
		t.Errorf("behind all: %q", k)
	}
	for k := range seq { // the tree may be changed while it is gone over
		x.Del(k)
	}
	if got := told(t, x, "k"); len(got) != 0 {
		t.Errorf("%d cells are left", len(got))
	}
}

// R3: what is handed out is the caller's own.
func TestOwn(t *testing.T) {
	_, _, x := planted(t, 100)
	for i := range 40 {
		put(t, x, string(rune('A'+i)), strings.Repeat("v", 90))
	}
	want, _ := x.Range("", "")
	mine, _ := x.Range("", "")
	seq, _ := x.Seq("")
	for i := range mine {
		mine[i] = tree.Cell{Key: "x"}
	}
	for i := range mine[:cap(mine)] {
		mine[:cap(mine)][i] = tree.Cell{Key: "y"}
	}
	ranges(t, x, "", "", want)
	i := 0
	for k, v := range seq {
		if want[i] != (tree.Cell{Key: k, Value: v}) {
			t.Errorf("Seq: %q at %d", k, i)
		}
		i++
	}
	pages, l := pagesOf(t, x), pagesOf(t, x)
	for i := range l {
		l[i] = -1
	}
	if got := pagesOf(t, x); !slices.Equal(got, pages) {
		t.Errorf("Pages: %v, not %v", got, pages)
	}
}
