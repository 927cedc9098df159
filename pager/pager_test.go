package pager_test

import (
	"bytes"
	"encoding/binary"
	"testing"

	"tollgate/api"
	"tollgate/disk"
	"tollgate/page"
	"tollgate/pager"
)

// made is a disk of n sectors.
func made(t testing.TB, n int) *disk.Disk {
	t.Helper()
	d, e := disk.New(n)
	if e != api.OK {
		t.Fatalf("New(%d): %v", n, e)
	}
	return d
}

// formatted is a disk of n sectors with a pager, formatted.
func formatted(t testing.TB, n int) (*disk.Disk, *pager.Pager) {
	t.Helper()
	d := made(t, n)
	p, e := pager.Format(d)
	if e != api.OK || p == nil {
		t.Fatalf("Format of %d sectors: %v", n, e)
	}
	return d, p
}

// opened is the pager that is found on a disk, with this root.
func opened(t testing.TB, d *disk.Disk, root int) *pager.Pager {
	t.Helper()
	p, r, e := pager.Open(d)
	if e != api.OK || p == nil {
		t.Fatalf("Open: %v", e)
	}
	if r != root || p.Root() != root {
		t.Errorf("Open: root %d, Root %d, not %d", r, p.Root(), root)
	}
	return p
}

// crashed is what is left of a disk by a plan.
func crashed(t testing.TB, d *disk.Disk, plan disk.Plan) *disk.Disk {
	t.Helper()
	if !d.Dead() {
		answers(t, "Crash", d.Crash(plan), api.OK)
	}
	r, e := d.Reopen()
	if e != api.OK {
		t.Fatalf("Reopen: %v", e)
	}
	return r
}

// answers asks that a call answers this error.
func answers(t testing.TB, call string, got, want api.Errno) {
	t.Helper()
	if got != want {
		t.Errorf("%s: %d, not %d", call, got, want)
	}
}

// stands asks what a pager tells of itself.
func stands(t testing.TB, p *pager.Pager, pages, free, seq, root int) {
	t.Helper()
	if p.Pages() != pages || p.Free() != free || p.Seq() != seq || p.Root() != root {
		t.Errorf("Pages %d, Free %d, Seq %d, Root %d, not %d, %d, %d, %d",
			p.Pages(), p.Free(), p.Seq(), p.Root(), pages, free, seq, root)
	}
}

// takes asks that these pages are taken, one behind the other.
func takes(t testing.TB, p *pager.Pager, want ...int) {
	t.Helper()
	for _, w := range want {
		if n, e := p.Alloc(); n != w || e != api.OK {
			t.Errorf("Alloc: %d, %v, not %d", n, e, w)
		}
	}
}

// full asks that no page is free.
func full(t testing.TB, p *pager.Pager) {
	t.Helper()
	if n, e := p.Alloc(); n != 0 || e != api.ErrFull {
		t.Errorf("Alloc: %d, %v, not ErrFull", n, e)
	}
}

// reads asks that a page reads so.
func reads(t testing.TB, p *pager.Pager, n int, want string) {
	t.Helper()
	if b, e := p.Read(n); e != api.OK || string(b) != want {
		t.Errorf("Read(%d): %.40q, %v, not %.40q", n, b, e, want)
	}
}

// refuses asks that a page is not read, and why.
func refuses(t testing.TB, p *pager.Pager, n int, want api.Errno) {
	t.Helper()
	if b, e := p.Read(n); e != want || len(b) != 0 {
		t.Errorf("Read(%d): %.40q, %v, not %v", n, b, e, want)
	}
}

func write(t testing.TB, p *pager.Pager, n int, b string) {
	t.Helper()
	if e := p.Write(n, []byte(b)); e != api.OK {
		t.Errorf("Write(%d, %.40q): %v", n, b, e)
	}
}

func commit(t testing.TB, p *pager.Pager, root int) {
	t.Helper()
	if e := p.Commit(root); e != api.OK {
		t.Errorf("Commit(%d): %v", root, e)
	}
}

// raw are the bytes of a page on the disk.
func raw(t testing.TB, d *disk.Disk, n int) []byte {
	t.Helper()
	var all []byte
	for i := range 4 {
		b, e := d.Read(4*n + i)
		if e != api.OK {
			t.Fatalf("Read of the sector %d: %v", 4*n+i, e)
		}
		all = append(all, b...)
	}
	return all
}

// lay puts a page's bytes on the disk.
func lay(t testing.TB, d *disk.Disk, n int, b []byte) {
	t.Helper()
	for i := range 4 {
		if e := d.Write(4*n+i, b[128*i:128*(i+1)]); e != api.OK {
			t.Fatalf("Write of the sector %d: %v", 4*n+i, e)
		}
	}
}

// encoded is a page.
func encoded(t testing.TB, n int, payload string) []byte {
	t.Helper()
	b, e := page.Encode(n, []byte(payload))
	if e != api.OK {
		t.Fatalf("Encode(%d, %q): %v", n, payload, e)
	}
	return b
}

// says is a meta's payload.
func says(mark string, seq, root, again uint64) string {
	b := []byte(mark)
	for _, v := range []uint64{seq, root, again} {
		b = binary.BigEndian.AppendUint64(b, v)
	}
	return string(b)
}

// holds asks that a meta stands in the page n, byte by byte.
func holds(t testing.TB, d *disk.Disk, n int, seq, root uint64) {
	t.Helper()
	if want := encoded(t, n, says("tollgate", seq, root, seq)); !bytes.Equal(raw(t, d, n), want) {
		t.Errorf("the meta %d: %q, not %q", n, raw(t, d, n)[:50], want[:50])
	}
}

// Example 1.
func TestExampleCommit(t *testing.T) {
	d, p := formatted(t, 20)
	takes(t, p, 2)
	answers(t, "Write", p.Write(2, []byte("a")), api.OK)
	answers(t, "Commit", p.Commit(2), api.OK)
	stands(t, p, 5, 2, 2, 2)
	holds(t, d, 0, 2, 2)
	holds(t, d, 1, 0, 0)
	p = opened(t, d, 2)
	stands(t, p, 5, 0, 2, 2)
	answers(t, "Use", p.Use([]int{2}), api.OK)
	stands(t, p, 5, 2, 2, 2)
	reads(t, p, 2, "a")
	refuses(t, p, 3, api.ErrState)
}

// Example 2.
func TestExampleDrop(t *testing.T) {
	d, p := formatted(t, 20)
	takes(t, p, 2)
	write(t, p, 2, "a")
	commit(t, p, 2)
	p = opened(t, d, 2)
	answers(t, "Use", p.Use([]int{2}), api.OK)
	takes(t, p, 3)
	answers(t, "Drop", p.Drop(2), api.OK)
	takes(t, p, 4)
	full(t, p)
	answers(t, "Commit(3)", p.Commit(3), api.ErrState)
	write(t, p, 3, "b")
	answers(t, "Commit(3)", p.Commit(3), api.OK)
	stands(t, p, 5, 1, 3, 3)
	takes(t, p, 2)
}

// Example 3.
func TestExampleRefused(t *testing.T) {
	if p, e := pager.Format(made(t, 11)); p != nil || e != api.ErrArg {
		t.Errorf("Format of 11 sectors: %v, %v", p, e)
	}
	for n, want := range map[int]api.Errno{11: api.ErrArg, 12: api.ErrMeta} {
		if p, root, e := pager.Open(made(t, n)); p != nil || root != 0 || e != want {
			t.Errorf("Open of %d sectors: %v, %d, %v", n, p, root, e)
		}
	}
	_, p := formatted(t, 20)
	answers(t, "Write(0, ..)", p.Write(0, nil), api.ErrArg)
	answers(t, "Use(2 2)", p.Use([]int{2, 2}), api.ErrTwice)
}

// P4.1: how many pages disks have, and that all of them from 2 on are free.
func TestFormat(t *testing.T) {
	for _, n := range []int{12, 13, 14, 15, 16, 17, 20, 101, api.MaxSectors - 1, api.MaxSectors} {
		d, p := formatted(t, n)
		stands(t, p, n/4, n/4-2, 1, 0)
		holds(t, d, 0, 1, 0)
		holds(t, d, 1, 0, 0)
		if d.Done() != 9 || d.Waits() != 0 {
			t.Errorf("of %d sectors: %d done, %d wait", n, d.Done(), d.Waits())
		}
		for i := range n / 4 {
			want := api.ErrState
			if i < 2 {
				want = api.ErrArg
			}
			refuses(t, p, i, want)
		}
		q := opened(t, d, 0)
		stands(t, q, n/4, 0, 1, 0)
	}
	for n := 1; n < 12; n++ {
		d := made(t, n)
		if p, e := pager.Format(d); p != nil || e != api.ErrArg || d.Done() != 0 {
			t.Errorf("Format of %d sectors: %v, %v, %d done", n, p, e, d.Done())
		}
		if p, root, e := pager.Open(d); p != nil || root != 0 || e != api.ErrArg {
			t.Errorf("Open of %d sectors: %v, %d, %v", n, p, root, e)
		}
	}
}

// P4.1: all pages of the largest disk are taken, written, kept, and read.
func TestLargest(t *testing.T) {
	d, p := formatted(t, api.MaxSectors)
	payload := func(n int) string { return string([]byte{byte(n), byte(n >> 8), 'x'}) }
	for n := 2; n <= page.MaxPage; n++ {
		takes(t, p, n)
		write(t, p, n, payload(n))
	}
	full(t, p)
	commit(t, p, page.MaxPage)
	p = opened(t, d, page.MaxPage)
	for n := 2; n <= page.MaxPage; n++ {
		reads(t, p, n, payload(n))
	}
	full(t, p)
	for n := 2; n <= page.MaxPage; n += 2 {
		answers(t, "Drop", p.Drop(n), api.OK)
	}
	commit(t, p, 3)
	for n := 2; n <= page.MaxPage; n += 2 {
		takes(t, p, n)
	}
	full(t, p)
}

// P4.1: Format goes over what was there.
func TestFormatAgain(t *testing.T) {
	d, p := formatted(t, 24)
	takes(t, p, 2, 3)
	write(t, p, 2, "a")
	write(t, p, 3, "b")
	for range 5 {
		commit(t, p, 3)
	}
	q, e := pager.Format(d)
	if e != api.OK {
		t.Fatal(e)
	}
	stands(t, q, 6, 4, 1, 0)
	holds(t, d, 0, 1, 0)
	holds(t, d, 1, 0, 0)
	stands(t, opened(t, crashed(t, d, disk.Plan{Torn: -1}), 0), 6, 0, 1, 0)
}

// P4.1: Format writes the page 1, then the page 0, sector by sector, and then flushes.
func TestFormatSteps(t *testing.T) {
	whole := append(encoded(t, 0, says("tollgate", 1, 0, 1)), encoded(t, 1, says("tollgate", 0, 0, 0))...)
	keep := []bool{true, true, true, true, true, true, true, true}
	order := []int{4, 5, 6, 7, 0, 1, 2, 3}
	for k := range 10 {
		d := made(t, 12)
		for i := range 12 {
			d.Write(i, bytes.Repeat([]byte{'z'}, 128))
		}
		d.Flush()
		d.Fuse(k, disk.Plan{Keep: keep, Torn: -1})
		p, e := pager.Format(d)
		if k == 9 {
			if e != api.OK || p == nil {
				t.Errorf("Format, nine done: %v", e)
			}
			continue
		}
		if e != api.ErrDead || p != nil {
			t.Errorf("Format, %d done: %v, %v", k, p, e)
		}
		r := crashed(t, d, disk.Plan{})
		for place, i := range order {
			want := whole[128*i : 128*(i+1)]
			if place > k {
				want = bytes.Repeat([]byte{'z'}, 128)
			}
			if b, _ := r.Read(i); !bytes.Equal(b, want) {
				t.Errorf("%d done: sector %d: %q, not %q", k, i, b, want)
			}
		}
	}
}

// stored is a disk of 6 pages with these bytes as its metas (none: as it is new).
func stored(t testing.TB, zero, one []byte) *disk.Disk {
	t.Helper()
	d := made(t, 27)
	for n, b := range [][]byte{zero, one} {
		if b != nil {
			lay(t, d, n, b)
		}
	}
	return d
}

// P4.1: of the sound metas the one with the greater sequence number, of two that are alike the page 0.
func TestOpenChooses(t *testing.T) {
	const most = 1 << 62
	for _, x := range []struct{ seq0, root0, seq1, root1, seq, root uint64 }{
		{1, 0, 0, 0, 1, 0},
		{0, 2, 1, 3, 1, 3},
		{0, 2, 0, 3, 0, 2},
		{7, 4, 7, 0, 7, 4},
		{7, 0, 7, 4, 7, 0},
		{8, 2, 7, 3, 8, 2},
		{8, 2, 9, 3, 9, 3},
		{9, 2, 8, 3, 9, 2}, // whichever page they stand in
		{255, 2, 256, 3, 256, 3},
		{1 << 32, 2, 1<<32 - 1, 3, 1 << 32, 2},
		{most, 2, most - 1, 3, most, 2},
		{most - 1, 2, most, 3, most, 3},
		{most, 2, most, 3, most, 2},
	} {
		d := stored(t, encoded(t, 0, says("tollgate", x.seq0, x.root0, x.seq0)), encoded(t, 1, says("tollgate", x.seq1, x.root1, x.seq1)))
		done := d.Done()
		p := opened(t, d, int(x.root))
		stands(t, p, 6, 0, int(x.seq), int(x.root))
		if d.Done() != done {
			t.Errorf("Open wrote or flushed: %v", x)
		}
	}
}

// unsound are pages of the number n that are no sound metas of a disk of 6 pages.
func unsound(t testing.TB, n int) map[string][]byte {
	t.Helper()
	good := encoded(t, n, says("tollgate", 9, 3, 9))
	turned := bytes.Clone(good)
	turned[20]++
	behind := bytes.Clone(good)
	behind[511] = 1
	return map[string][]byte{
		"new":                      nil,
		"another page":             encoded(t, 1-n, says("tollgate", 9, 3, 9)),
		"a byte turned":            turned,
		"a byte behind":            behind,
		"no payload":               encoded(t, n, ""),
		"one byte less":            encoded(t, n, says("tollgate", 9, 3, 9)[:31]),
		"one byte more":            encoded(t, n, says("tollgate", 9, 3, 9)+"\x00"),
		"another mark":             encoded(t, n, says("tollgatE", 9, 3, 9)),
		"a mark moved":             encoded(t, n, "\x00"+says("tollgate", 9, 3, 9)[:31]),
		"no mark":                  encoded(t, n, says("\x00\x00\x00\x00\x00\x00\x00\x00", 9, 3, 9)),
		"another number again":     encoded(t, n, says("tollgate", 9, 3, 8)),
		"another number first":     encoded(t, n, says("tollgate", 1<<56|9, 3, 9)),
		"past the last number":     encoded(t, n, says("tollgate", 1<<62+1, 3, 1<<62+1)),
		"the greatest number":      encoded(t, n, says("tollgate", 1<<63-1, 3, 1<<63-1)),
		"below 0":                  encoded(t, n, says("tollgate", 1<<63, 3, 1<<63)),
		"just below 0":             encoded(t, n, says("tollgate", 1<<64-1, 3, 1<<64-1)),
		"a meta as root":           encoded(t, n, says("tollgate", 9, 1, 9)),
		"a root behind the end":    encoded(t, n, says("tollgate", 9, 6, 9)),
		"a root far behind":        encoded(t, n, says("tollgate", 9, 1<<32+3, 9)),
		"a root below 0":           encoded(t, n, says("tollgate", 9, 1<<64-1, 9)),
		"a root with the last bit": encoded(t, n, says("tollgate", 9, 1<<63|3, 9)),
	}
}

// P4.1: metas that are not sound are passed by; if none is sound, it is ErrMeta.
func TestOpenSound(t *testing.T) {
	for n := range 2 {
		for what, bad := range unsound(t, n) {
			for _, root := range []uint64{0, 2, 5} {
				metas := [2][]byte{}
				metas[n], metas[1-n] = bad, encoded(t, 1-n, says("tollgate", 4, root, 4))
				t.Logf("page %d: %s", n, what)
				p := opened(t, stored(t, metas[0], metas[1]), int(root))
				stands(t, p, 6, 0, 4, int(root))
			}
			for other, worse := range unsound(t, 1-n) {
				metas := [2][]byte{}
				metas[n], metas[1-n] = bad, worse
				if p, root, e := pager.Open(stored(t, metas[0], metas[1])); p != nil || root != 0 || e != api.ErrMeta {
					t.Errorf("%s and %s: %v, %d, %v", what, other, p, root, e)
				}
			}
		}
	}
}

// The errors of Format and Open, in their order.
func TestMakeRefuses(t *testing.T) {
	small, large := made(t, 11), made(t, 20)
	small.Crash(disk.Plan{})
	large.Crash(disk.Plan{})
	var none *disk.Disk
	for _, x := range []struct {
		d    *disk.Disk
		want api.Errno
	}{{none, api.ErrNil}, {small, api.ErrDead}, {large, api.ErrDead}, {new(disk.Disk), api.ErrArg}} {
		if p, e := pager.Format(x.d); p != nil || e != x.want {
			t.Errorf("Format: %v, %v, not %v", p, e, x.want)
		}
		if p, root, e := pager.Open(x.d); p != nil || root != 0 || e != x.want {
			t.Errorf("Open: %v, %d, %v, not %v", p, root, e, x.want)
		}
	}
}

// P4.2: what is read of pages that are free, taken, written, dropped, used.
func TestRead(t *testing.T) {
	d, p := formatted(t, 24)
	refuses(t, p, 2, api.ErrState)
	takes(t, p, 2)
	refuses(t, p, 2, api.ErrNone)
	write(t, p, 2, "a")
	reads(t, p, 2, "a")
	write(t, p, 2, "")
	reads(t, p, 2, "")
	write(t, p, 2, "b")
	reads(t, p, 2, "b")
	takes(t, p, 3)
	answers(t, "Drop(2)", p.Drop(2), api.OK)
	refuses(t, p, 2, api.ErrState)
	takes(t, p, 2) // anew: not written
	refuses(t, p, 2, api.ErrNone)
	answers(t, "Commit(2)", p.Commit(2), api.ErrState)
	write(t, p, 2, "c")
	commit(t, p, 2)
	reads(t, p, 2, "c")
	refuses(t, p, 3, api.ErrSum) // used, and never written
	answers(t, "Drop(2)", p.Drop(2), api.OK)
	reads(t, p, 2, "c")
	commit(t, p, 0)
	refuses(t, p, 2, api.ErrState)
	p = opened(t, d, 0)
	reads(t, p, 2, "c")
	refuses(t, p, 3, api.ErrSum)
	refuses(t, p, 5, api.ErrSum)
}

// P4.2: a page whose bytes are not whole is refused; one that was written otherwise is read as it stands.
func TestReadSum(t *testing.T) {
	d, p := formatted(t, 24)
	takes(t, p, 2)
	write(t, p, 2, "abc")
	b := raw(t, d, 2)
	b[300] = 1
	lay(t, d, 2, b)
	refuses(t, p, 2, api.ErrSum)
	lay(t, d, 2, encoded(t, 3, "abc"))
	refuses(t, p, 2, api.ErrSum)
	lay(t, d, 2, encoded(t, 2, "xyz"))
	reads(t, p, 2, "xyz")
}

// P4.2: payloads of every length are written as page says, at once, sector by sector.
func TestWrite(t *testing.T) {
	d, p := formatted(t, 24)
	takes(t, p, 2, 3, 4)
	for size := range page.Room + 1 {
		n := 2 + size%3
		b := bytes.Repeat([]byte{byte(size), 0xFF, 0}, 200)[:size]
		done := d.Done()
		write(t, p, n, string(b))
		if d.Done() != done+4 {
			t.Errorf("Write: %d done", d.Done()-done)
		}
		if !bytes.Equal(raw(t, d, n), encoded(t, n, string(b))) {
			t.Errorf("Write(%d, %d bytes): %q", n, size, raw(t, d, n))
		}
		reads(t, p, n, string(b))
	}
	whole := encoded(t, 3, "new")
	for k := range 4 {
		c := d.Copy()
		q, _ := pager.Format(c)
		takes(t, q, 2, 3)
		old := raw(t, c, 3)
		c.Fuse(k, disk.Plan{Keep: []bool{true, true, true, true}, Torn: -1})
		answers(t, "Write by the fuse", q.Write(3, []byte("new")), api.ErrDead)
		want := append(bytes.Clone(whole[:128*(k+1)]), old[128*(k+1):]...)
		if got := raw(t, crashed(t, c, disk.Plan{}), 3); !bytes.Equal(got, want) {
			t.Errorf("%d sectors done: %q, not %q", k, got, want)
		}
	}
}

// P4.2: Use, again and again; the least free page is the one that is taken.
func TestUse(t *testing.T) {
	_, p := formatted(t, 40)
	for _, x := range []struct {
		used, free []int
	}{
		{nil, []int{2, 3, 4, 5, 6, 7, 8, 9}},
		{[]int{2}, []int{3, 4, 5, 6, 7, 8, 9}},
		{[]int{9, 2, 5}, []int{3, 4, 6, 7, 8}},
		{[]int{}, []int{2, 3, 4, 5, 6, 7, 8, 9}},
		{[]int{9, 8, 7, 6, 5, 4, 3, 2}, nil},
		{[]int{3, 4}, []int{2, 5, 6, 7, 8, 9}},
	} {
		answers(t, "Use", p.Use(x.used), api.OK)
		stands(t, p, 10, len(x.free), 1, 0)
		for _, n := range x.used {
			refuses(t, p, n, api.ErrSum)
		}
		for _, n := range x.free {
			refuses(t, p, n, api.ErrState)
		}
		takes(t, p, x.free...)
		full(t, p)
		stands(t, p, 10, 0, 1, 0)
		answers(t, "Use while some are taken", p.Use(nil), map[bool]api.Errno{true: api.ErrState}[len(x.free) > 0])
		answers(t, "Abort", p.Abort(), api.OK)
	}
}

// R3: what is handed in is not changed, not kept, and not read beyond its length; what is handed out is the caller's.
func TestMemory(t *testing.T) {
	_, p := formatted(t, 24)
	l := []int{2, 4, 3, 99}
	answers(t, "Use", p.Use(l[:2]), api.OK)
	if l[0] != 2 || l[1] != 4 || l[2] != 3 {
		t.Errorf("Use changed what it was handed: %v", l)
	}
	l[0], l[1] = 3, 5
	takes(t, p, 3)
	long := []byte("abcdef")
	answers(t, "Write", p.Write(3, long[:3]), api.OK)
	if string(long) != "abcdef" {
		t.Errorf("Write changed what it was handed: %q", long)
	}
	clear(long)
	for range 2 {
		first, _ := p.Read(3)
		second, _ := p.Read(3)
		first = first[:cap(first)]
		clear(first)
		if string(second) != "abc" {
			t.Errorf("an earlier answer: %q", second)
		}
		reads(t, p, 3, "abc")
	}
	takes(t, p, 5)
	full(t, p)
}

// R1: of a nil pager.
func TestNil(t *testing.T) {
	var p *pager.Pager
	stands(t, p, 0, 0, 0, 0)
	for _, n := range []int{-1, 0, 1, 2, 3} {
		refuses(t, p, n, api.ErrNil)
		answers(t, "Use", p.Use([]int{n, n}), api.ErrNil)
		answers(t, "Write", p.Write(n, make([]byte, 600)), api.ErrNil)
		answers(t, "Drop", p.Drop(n), api.ErrNil)
		answers(t, "Commit", p.Commit(n), api.ErrNil)
	}
	if n, e := p.Alloc(); n != 0 || e != api.ErrNil {
		t.Errorf("Alloc: %d, %v", n, e)
	}
	answers(t, "Use of none", p.Use(nil), api.ErrNil)
	answers(t, "Abort", p.Abort(), api.ErrNil)
}

// R1: a pager that no call made panics nowhere.
func TestMadeOtherwise(t *testing.T) {
	p := new(pager.Pager)
	for range 2 {
		for _, n := range []int{-1, 0, 1, 2, 3, 1 << 62} {
			p.Read(n)
			p.Use([]int{n})
			p.Write(n, nil)
			p.Drop(n)
			p.Commit(n)
		}
		p.Use(nil)
		p.Alloc()
		p.Pages()
		p.Free()
		p.Seq()
		p.Root()
		p.Abort()
	}
}
