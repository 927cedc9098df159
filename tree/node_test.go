package tree

import (
	"bytes"
	"fmt"
	"math/rand/v2"
	"reflect"
	"slices"
	"strings"
	"testing"

	"tollgate/api"
	"tollgate/disk"
	"tollgate/pager"
)

// laid is a pager on whose pages from 2 on these payloads stand, none committed.
func laid(t testing.TB, payloads ...[]byte) *pager.Pager {
	t.Helper()
	d, _ := disk.New(4 * (len(payloads) + 600))
	p, e := pager.Format(d)
	if e != api.OK {
		t.Fatal(e)
	}
	for _, b := range payloads {
		n, _ := p.Alloc()
		if e := p.Write(n, b); e != api.OK {
			t.Fatalf("Write(%d, %.40q): %v", n, b, e)
		}
	}
	return p
}

// leaf is a leaf of these keys, each with its own value.
func leaf(keys ...string) node {
	var n node
	for _, k := range keys {
		n.cells = append(n.cells, Cell{k, "value of " + k})
	}
	return n
}

// inner is a node of this level, of a low and a page behind each other.
func inner(level int, l ...any) node {
	n := node{level: level}
	for i := 0; i < len(l); i += 2 {
		n.kids = append(n.kids, kid{low: l[i].(string), page: l[i+1].(int)})
	}
	return n
}

// asked are the errors that a tree of New at the page 2 answers to all calls that need all pages.
func asked(t testing.TB, p *pager.Pager) api.Errno {
	t.Helper()
	x, e := New(p, 2)
	if e != api.OK {
		t.Fatal(e)
	}
	l, e := x.Range("", "")
	pages, f := x.Pages()
	seq, g := x.Seq("")
	if e != f || e != g {
		t.Errorf("Range: %v, Pages: %v, Seq: %v", e, f, g)
	}
	if e != api.OK && (len(l) > 0 || len(pages) > 0 || seq != nil) {
		t.Errorf("beside %v: %v, %v", e, l, pages)
	}
	for _, key := range []string{"a", "b", "bb", "c", "d", "e", "f", "g", "zz"} {
		v, ok, e := x.Get(key)
		if e != api.OK && (v != "" || ok) {
			t.Errorf("beside %v: %q, %v", e, v, ok)
		}
	}
	return e
}

// What stands on a page of a tree that somebody else wrote, and what is none.
func TestForm(t *testing.T) {
	low, high := leaf("a", "b"), leaf("c", "d")
	root := inner(1, "", 3, "c", 4)
	at := func(nodes ...node) []byte { return nodes[0].bytes() }
	wide := strings.Repeat("k", api.MaxKey)
	for name, c := range map[string]struct {
		want  api.Errno
		pages [][]byte
	}{
		"a leaf":                      {api.OK, [][]byte{at(leaf("a"))}},
		"two leaves":                  {api.OK, [][]byte{at(root), at(low), at(high)}},
		"a key as long as can be":     {api.OK, [][]byte{at(leaf("a", wide))}},
		"three levels":                {api.OK, [][]byte{at(inner(2, "", 3, "e", 4)), at(inner(1, "", 5, "c", 6)), at(inner(1, "e", 7, "g", 8)), at(low), at(high), at(leaf("e", "f")), at(leaf("g"))}},
		"nothing":                     {api.ErrForm, [][]byte{nil}},
		"a mark":                      {api.ErrForm, [][]byte{[]byte("tr")}},
		"another mark":                {api.ErrForm, [][]byte{append([]byte("tR"), at(low)[2:]...)}},
		"no cells":                    {api.ErrForm, [][]byte{at(node{})}},
		"no kids":                     {api.ErrForm, [][]byte{at(node{level: 1})}},
		"one kid":                     {api.ErrForm, [][]byte{at(inner(1, "", 3)), at(low)}},
		"an empty key":                {api.ErrForm, [][]byte{at(leaf("", "a"))}},
		"a key too long":              {api.ErrForm, [][]byte{at(leaf(wide + "k"))}},
		"a value too long":            {api.ErrForm, [][]byte{at(node{cells: []Cell{{"a", strings.Repeat("v", api.MaxCell+1)}}})}},
		"a low too long":              {api.ErrForm, [][]byte{at(inner(1, "", 3, wide+"k", 4)), at(low), at(leaf("z"))}},
		"keys that fall":              {api.ErrForm, [][]byte{at(leaf("b", "a"))}},
		"a key twice":                 {api.ErrForm, [][]byte{at(leaf("a", "a"))}},
		"a cell that is cut":          {api.ErrForm, [][]byte{at(low)[:len(at(low))-1]}},
		"a kid that is cut":           {api.ErrForm, [][]byte{at(root)[:len(at(root))-1], at(low), at(high)}},
		"a byte behind cells":         {api.ErrForm, [][]byte{append(at(low), 1)}},
		"a byte behind kids":          {api.ErrForm, [][]byte{append(at(root), 0), at(low), at(high)}},
		"lows that fall":              {api.ErrForm, [][]byte{at(inner(1, "", 3, "c", 4, "b", 5)), at(leaf("a")), at(leaf("c")), at(leaf("b"))}},
		"a low twice":                 {api.ErrForm, [][]byte{at(inner(1, "", 3, "c", 4, "c", 5)), at(low), at(high), at(leaf("e"))}},
		"a low above the root's":      {api.ErrForm, [][]byte{at(inner(1, "a", 3, "c", 4)), at(low), at(high)}},
		"a low unlike the one above":  {api.ErrForm, [][]byte{at(inner(2, "", 3, "e", 4)), at(inner(1, "", 5, "c", 6)), at(inner(1, "f", 7, "g", 8)), at(low), at(high), at(leaf("f")), at(leaf("g"))}},
		"a key below its low":         {api.ErrForm, [][]byte{at(root), at(low), at(leaf("bb", "d"))}},
		"a key at the next low":       {api.ErrForm, [][]byte{at(root), at(leaf("a", "c")), at(high)}},
		"a low at the next one above": {api.ErrForm, [][]byte{at(inner(2, "", 3, "e", 4)), at(inner(1, "", 5, "e", 6)), at(inner(1, "e", 7, "g", 8)), at(low), at(leaf("e")), at(leaf("f")), at(leaf("g"))}},
		"one leaf as two kids":        {api.ErrForm, [][]byte{at(root), at(low), at(low)}},
		"a leaf two levels below":     {api.ErrForm, [][]byte{at(inner(2, "", 3, "c", 4)), at(low), at(high)}},
		"a node as its own kid":       {api.ErrForm, [][]byte{at(inner(1, "", 2, "c", 2))}},
		"a node below itself":         {api.ErrForm, [][]byte{at(inner(2, "", 3, "c", 4)), at(inner(1, "", 2, "b", 2)), at(high)}},
		"the page 0 as a kid":         {api.ErrArg, [][]byte{at(inner(1, "", 0, "c", 3)), at(high)}},
		"no page as a kid":            {api.ErrArg, [][]byte{at(inner(1, "", 3, "c", 16383)), at(low)}},
		"a free page as a kid":        {api.ErrState, [][]byte{at(inner(1, "", 3, "c", 4)), at(low)}},
	} {
		p := laid(t, c.pages...)
		if e := asked(t, p); e != c.want {
			t.Errorf("%s: %v, not %v", name, e, c.want)
		}
		x, _ := New(p, 2)
		for _, key := range []string{"a", "b", "c", "d", "e"} { // none of these panics
			x.Put(key, "new")
			x.Del(key)
		}
	}
}

// Pages that a call does not need are not read: whatever they hold, it is not refused.
func TestNeeded(t *testing.T) {
	nodes := []node{inner(1, "", 3, "c", 4, "e", 5), leaf("a", "b"), leaf("c", "d"), leaf("e", "f")}
	ranges := []struct {
		from, to string
		leaves   []int
	}{
		{"", "", []int{3, 4, 5}}, {"", "c", []int{3}}, {"", "cc", []int{3, 4}}, {"b", "c", []int{3}}, {"bb", "bc", []int{3}},
		{"c", "", []int{4, 5}}, {"c", "e", []int{4}}, {"d", "ee", []int{4, 5}}, {"e", "", []int{5}}, {"g", "h", []int{5}}, {"e", "e", nil}, {"e", "a", nil},
	}
	for bad := 3; bad <= 5; bad++ {
		var l [][]byte
		for i, n := range nodes {
			b := n.bytes()
			if i+2 == bad {
				b = []byte("none")
			}
			l = append(l, b)
		}
		x, _ := New(laid(t, l...), 2)
		want := func(leaves ...int) api.Errno {
			if slices.Contains(leaves, bad) {
				return api.ErrForm
			}
			return api.OK
		}
		for _, c := range ranges {
			if _, e := x.Range(c.from, c.to); e != want(c.leaves...) {
				t.Errorf("Range(%q, %q): %v, where the page %d is none", c.from, c.to, e, bad)
			}
			if _, e := x.Seq(c.from); c.to == "" && e != want(c.leaves...) {
				t.Errorf("Seq(%q): %v, where the page %d is none", c.from, e, bad)
			}
		}
		for key, n := range map[string]int{"a": 3, "bb": 3, "c": 4, "cc": 4, "d": 4, "e": 5, "z": 5} {
			if _, _, e := x.Get(key); e != want(n) {
				t.Errorf("Get(%q): %v, where the page %d is none", key, e, bad)
			}
			if _, e := x.Del(key + "none"); e != want(n) {
				t.Errorf("Del(%q): %v, where the page %d is none", key, e, bad)
			}
		}
	}
}

// R1: a page below which there are two ways to the next one, again and again: twice as many ways with each.
func TestManyWays(t *testing.T) {
	const levels = 200
	for _, lows := range [][]string{{"", "b"}, {"", "a", "b", "c", "d", "e", "f"}} {
		var l [][]byte
		for i := range levels {
			n := node{level: levels - i}
			for _, low := range lows {
				n.kids = append(n.kids, kid{low: low, page: 3 + i})
			}
			l = append(l, n.bytes())
		}
		l = append(l, leaf("a", "b").bytes())
		if e := asked(t, laid(t, l...)); e != api.ErrForm {
			t.Errorf("%q: %v", lows, e)
		}
	}
}

// R1: a tree that is as high as levels go, and is changed from the leaf to the root.
func TestHigh(t *testing.T) {
	var l [][]byte
	for i := range 255 {
		n := inner(255-i, "", 4+2*i, fmt.Sprintf("z%03d", 255-i), 3+2*i)
		side := inner(254-i, fmt.Sprintf("z%03d", 255-i), 3, fmt.Sprintf("z%03dz", 255-i), 3)
		if i == 254 {
			side = leaf("z001")
		}
		l = append(l, n.bytes(), side.bytes())
	}
	p := laid(t, append(l, leaf("a").bytes())...)
	x, _ := New(p, 2)
	if v, ok, e := x.Get("a"); v != "value of a" || !ok || e != api.OK {
		t.Errorf("Get: %q, %v, %v", v, ok, e)
	}
	if e := x.Put("b", "c"); e != api.OK {
		t.Errorf("Put: %v", e)
	}
	if v, ok, e := x.Get("b"); v != "c" || !ok || e != api.OK {
		t.Errorf("Get: %q, %v, %v", v, ok, e)
	}
	x.Del("a")
	x.Del("b")
	asked(t, p)
}

// What was decoded is written as it was; what was written is decoded as it was.
func TestBack(t *testing.T) {
	r := rand.New(rand.NewPCG(5, 10))
	for range 3000 {
		var n node
		if r.IntN(2) == 0 {
			for n.size() < room-150 && r.IntN(20) > 0 {
				n.cells = append(n.cells, Cell{strings.Repeat("k", 1+r.IntN(40)), strings.Repeat("v", r.IntN(101))})
			}
		} else {
			n.level = 1 + r.IntN(255)
			for n.size() < room-50 && r.IntN(20) > 0 {
				n.kids = append(n.kids, kid{low: strings.Repeat("k", r.IntN(41)), page: r.IntN(16384)})
			}
		}
		b := n.bytes()
		if len(b) != n.size()+3 {
			t.Fatalf("%d bytes, of size %d", len(b), n.size())
		}
		if m, ok := decoded(b); !ok || !reflect.DeepEqual(m, n) {
			t.Fatalf("%v, %v, not %v", m, ok, n)
		}
		for range 5 {
			b[r.IntN(len(b))] = byte(r.IntN(256))
		}
		b = b[:r.IntN(len(b)+1)]
		if m, ok := decoded(b); ok && !bytes.Equal(m.bytes(), b) {
			t.Fatalf("%q is %v, and then %q", b, m, m.bytes())
		}
	}
}

// Each node is on a page of its own, filled to a third or more, but for the root; those that were taken are known; however cells come and go.
func TestFilled(t *testing.T) {
	r := rand.New(rand.NewPCG(5, 11))
	for _, wide := range []int{1, 7, 37} {
		for _, far := range []int{0, 100} {
			d, _ := disk.New(4 * 3000)
			p, _ := pager.Format(d)
			x, _ := New(p, 0)
			for n := range 4000 {
				key := fmt.Sprintf("%03d", r.IntN(800)) + strings.Repeat("k", r.IntN(wide+1))
				if r.IntN(2) == n/1000%2 || r.IntN(5) == 0 {
					key = "5" + key[:min(len(key), 39)]
				}
				var e api.Errno
				if n/1000%2 == 0 {
					e = x.Put(key, strings.Repeat("v", r.IntN(far+1)))
				} else if l, _ := x.Range(key, ""); len(l) > 0 {
					_, e = x.Del(l[0].Key)
				}
				if e != api.OK {
					t.Fatal(e)
				}
				switch {
				case n%400 == 77:
					x.Abort()
				case n%50 == 0:
					x.Commit()
				}
				if n%20 == 0 {
					filled(t, x)
				}
			}
		}
	}
}

// filled asks how a tree's nodes are filled.
func filled(t *testing.T, x *Tree) {
	t.Helper()
	var pages []int
	for s, e := range x.seen("", "") {
		if e != api.OK {
			t.Fatal(e)
		}
		if size := s.node.size(); s.spot.page != x.root && size < least || size > room {
			t.Fatalf("a node of %d bytes", size)
		}
		pages = append(pages, s.spot.page)
	}
	slices.Sort(pages)
	if len(slices.Compact(pages)) != len(pages) {
		t.Fatalf("pages %v", pages)
	}
	old, _ := New(x.pager, x.kept)
	kept, e := old.Pages()
	if e != api.OK {
		t.Fatal(e)
	}
	for _, n := range pages {
		if _, ok := x.taken[n]; ok == slices.Contains(kept, n) {
			t.Fatalf("the page %d is taken: %v", n, ok)
		}
	}
	for n := range x.taken {
		if !slices.Contains(pages, n) {
			t.Fatalf("the page %d was taken, and is none of the tree", n)
		}
	}
}

// A list that is split: no half has room that is the other one's, and the halves are as alike as they can be.
func TestHalved(t *testing.T) {
	r := rand.New(rand.NewPCG(5, 12))
	self := func(n int) int { return n }
	for range 3000 {
		l := make([]int, 2+r.IntN(30), 60)
		for i := range l {
			l[i] = 3 + r.IntN(140)
		}
		left, right := halved(l, self)
		if !slices.Equal(slices.Concat(left, right), l) || cap(left) != len(left) || cap(right) != len(right) {
			t.Fatalf("%v: %v, %v", l, left, right)
		}
		most := max(total(left, self), total(right, self))
		for i := range l {
			if max(total(l[:i], self), total(l[i:], self)) < most {
				t.Fatalf("%v: %v, %v, not from %d on", l, left, right, i)
			}
		}
	}
}

// A list that is spliced is a new one.
func TestSpliced(t *testing.T) {
	l := []int{1, 2, 3, 4, 5, 6}[:4]
	for _, c := range []struct {
		from, to  int
		put, want []int
	}{
		{0, 0, nil, []int{1, 2, 3, 4}},
		{0, 0, []int{7}, []int{7, 1, 2, 3, 4}},
		{4, 4, []int{7, 8}, []int{1, 2, 3, 4, 7, 8}},
		{1, 3, nil, []int{1, 4}},
		{1, 3, []int{7}, []int{1, 7, 4}},
		{0, 4, nil, []int{}},
	} {
		got := spliced(l, c.from, c.to, c.put...)
		if !slices.Equal(got, c.want) {
			t.Errorf("%v, not %v", got, c.want)
		}
		got = append(got, 9)
		for i := range got {
			got[i] = 0
		}
		if !slices.Equal(l[:6], []int{1, 2, 3, 4, 5, 6}) {
			t.Errorf("the list is %v", l[:6])
		}
	}
}
