package disk_test

import (
	"bytes"
	"fmt"
	"testing"

	"tollgate/api"
	"tollgate/disk"
)

// whole are as many bytes as a sector has, all of them c.
func whole(c byte) []byte { return bytes.Repeat([]byte{c}, api.SectorSize) }

// torn is a sector whose first n bytes are a, the others b.
func torn(n int, a, b byte) []byte {
	return append(whole(a)[:n:n], whole(b)[n:]...)
}

// made is a disk of n sectors.
func made(t testing.TB, n int) *disk.Disk {
	t.Helper()
	d, e := disk.New(n)
	if e != api.OK || d == nil {
		t.Fatalf("New(%d): %v", n, e)
	}
	return d
}

// opened is what is there behind a crash.
func opened(t testing.TB, d *disk.Disk) *disk.Disk {
	t.Helper()
	r, e := d.Reopen()
	if e != api.OK || r == nil {
		t.Fatalf("Reopen: %v", e)
	}
	return r
}

func write(t testing.TB, d *disk.Disk, i int, b []byte) {
	t.Helper()
	if e := d.Write(i, b); e != api.OK {
		t.Fatalf("Write(%d, ..): %v", i, e)
	}
}

func flush(t testing.TB, d *disk.Disk) {
	t.Helper()
	if e := d.Flush(); e != api.OK {
		t.Fatalf("Flush: %v", e)
	}
}

func crash(t testing.TB, d *disk.Disk, p disk.Plan) {
	t.Helper()
	if e := d.Crash(p); e != api.OK {
		t.Fatalf("Crash(%v): %v", p, e)
	}
}

func light(t testing.TB, d *disk.Disk, k int, p disk.Plan) {
	t.Helper()
	if e := d.Fuse(k, p); e != api.OK {
		t.Fatalf("Fuse(%d, %v): %v", k, p, e)
	}
}

// reads asks that the sectors from 0 on read so, and that there are no others.
func reads(t testing.TB, d *disk.Disk, want ...[]byte) {
	t.Helper()
	if d.Len() != len(want) {
		t.Errorf("Len: %d, not %d", d.Len(), len(want))
	}
	for i, w := range want {
		if b, e := d.Read(i); e != api.OK || !bytes.Equal(b, w) {
			t.Errorf("Read(%d): %q, %v, not %q", i, b, e, w)
		}
	}
}

// stands asks how many writes wait, how many calls were done, and whether the disk is dead.
func stands(t testing.TB, d *disk.Disk, waits, done int, dead bool) {
	t.Helper()
	if d.Waits() != waits || d.Done() != done || d.Dead() != dead {
		t.Errorf("Waits %d, Done %d, Dead %v, not %d, %d, %v", d.Waits(), d.Done(), d.Dead(), waits, done, dead)
	}
}

// answers asks that a call answers this error.
func answers(t testing.TB, call string, got, want api.Errno) {
	t.Helper()
	if got != want {
		t.Errorf("%s: %d, not %d", call, got, want)
	}
}

// P2.1: a new disk, and how many sectors it may have.
func TestNew(t *testing.T) {
	for _, n := range []int{1, 2, 4, 100, api.MaxSectors} {
		d := made(t, n)
		stands(t, d, 0, 0, false)
		if d.Len() != n {
			t.Errorf("Len: %d, not %d", d.Len(), n)
		}
		for i := range n {
			if b, e := d.Read(i); e != api.OK || !bytes.Equal(b, whole(0)) {
				t.Fatalf("Read(%d): %q, %v", i, b, e)
			}
		}
	}
	for _, n := range []int{0, -1, -1 << 63, api.MaxSectors + 1, 1<<63 - 1} {
		if d, e := disk.New(n); d != nil || e != api.ErrArg {
			t.Errorf("New(%d): %v, %v", n, d, e)
		}
	}
}

// P2.1: what is written is there at once, waits, and lasts when it was flushed.
func TestWriteAndFlush(t *testing.T) {
	d := made(t, 3)
	write(t, d, 1, whole('a'))
	stands(t, d, 1, 1, false)
	reads(t, d, whole(0), whole('a'), whole(0))
	write(t, d, 1, whole('b'))
	write(t, d, 2, whole('c'))
	stands(t, d, 3, 3, false)
	reads(t, d, whole(0), whole('b'), whole('c'))
	flush(t, d)
	stands(t, d, 0, 4, false)
	reads(t, d, whole(0), whole('b'), whole('c'))
	write(t, d, 1, whole('d'))
	stands(t, d, 1, 5, false)
	reads(t, d, whole(0), whole('d'), whole('c'))
	flush(t, d)
	flush(t, d)
	stands(t, d, 0, 7, false)
	reads(t, d, whole(0), whole('d'), whole('c'))
	crash(t, d, disk.Plan{})
	stands(t, d, 0, 7, true)
	if d.Len() != 3 {
		t.Errorf("Len behind a crash: %d", d.Len())
	}
	reads(t, opened(t, d), whole(0), whole('d'), whole('c'))
}

// P2.1: the last write of many to one sector is read, and lasts; a write like an earlier one waits, too.
func TestWriteAgain(t *testing.T) {
	d := made(t, 2)
	for c := range 50 {
		write(t, d, c%2, whole(byte(c)))
		write(t, d, c%2, whole(byte(c)))
	}
	stands(t, d, 100, 100, false)
	reads(t, d, whole(48), whole(49))
	flush(t, d)
	reads(t, d, whole(48), whole(49))
	crash(t, d, disk.Plan{Keep: []bool{true}})
	reads(t, opened(t, d), whole(48), whole(49))
}

// P2.1: all sectors of the largest disk, written one behind the other, and read while all of them wait.
func TestLargest(t *testing.T) {
	d := made(t, api.MaxSectors)
	sector := func(i int) []byte { return torn(64, byte(i), byte(i>>8)) }
	for i := range api.MaxSectors {
		write(t, d, i, sector(i))
	}
	stands(t, d, api.MaxSectors, api.MaxSectors, false)
	for range 2 {
		for i := range api.MaxSectors {
			if b, e := d.Read(i); e != api.OK || !bytes.Equal(b, sector(i)) {
				t.Fatalf("Read(%d): %q, %v", i, b, e)
			}
		}
		flush(t, d)
	}
}

// R3: what is handed in is not kept nor changed, and not read beyond its length; what is handed out is the caller's.
func TestMemory(t *testing.T) {
	d := made(t, 2)
	long := append(whole('a'), "beyond"...)
	b := long[:api.SectorSize]
	write(t, d, 0, b)
	if !bytes.Equal(long, append(whole('a'), "beyond"...)) {
		t.Errorf("Write changed what it was handed: %q", long)
	}
	clear(b)
	reads(t, d, whole('a'), whole(0))
	for range 2 {
		for i, want := range [][]byte{whole('a'), whole(0)} {
			first, _ := d.Read(i)
			second, _ := d.Read(i)
			first = first[:cap(first)]
			clear(first)
			first[0] = 'z'
			if !bytes.Equal(second, want) {
				t.Errorf("an earlier answer: %q", second)
			}
			reads(t, d, whole('a'), whole(0))
		}
		flush(t, d)
	}
	crash(t, d, disk.Plan{})
	reads(t, opened(t, d), whole('a'), whole(0))
}

// R1: of a nil disk.
func TestNil(t *testing.T) {
	var d *disk.Disk
	if d.Len() != 0 {
		t.Errorf("Len: %d", d.Len())
	}
	stands(t, d, 0, 0, false)
	for _, i := range []int{0, -1, 1} {
		if b, e := d.Read(i); len(b) != 0 || e != api.ErrNil {
			t.Errorf("Read(%d): %q, %v", i, b, e)
		}
		answers(t, "Write", d.Write(i, whole('a')), api.ErrNil)
		answers(t, "Write of none", d.Write(i, nil), api.ErrNil)
		answers(t, "Fuse", d.Fuse(i, disk.Plan{Cut: i}), api.ErrNil)
		answers(t, "Crash", d.Crash(disk.Plan{Cut: i}), api.ErrNil)
	}
	answers(t, "Flush", d.Flush(), api.ErrNil)
	if r, e := d.Reopen(); r != nil || e != api.ErrNil {
		t.Errorf("Reopen: %v, %v", r, e)
	}
	if c := d.Copy(); c != nil {
		t.Errorf("Copy: %v", c)
	}
}

// R1: a disk that no call made panics nowhere.
func TestMadeOtherwise(t *testing.T) {
	d := new(disk.Disk)
	for range 2 {
		for _, i := range []int{0, -1, 1} {
			d.Read(i)
			d.Write(i, whole('a'))
			d.Fuse(i, disk.Plan{Torn: i})
		}
		d.Len()
		d.Flush()
		d.Copy().Flush()
		d.Crash(disk.Plan{Keep: []bool{true}})
		d, _ = d.Reopen()
	}
}

// wrongCalls are calls that a disk of 4 sectors refuses with ErrArg, if it is not dead, and what it answers them.
func wrongCalls(d *disk.Disk) map[string]api.Errno {
	got := map[string]api.Errno{}
	for _, i := range []int{-1, 4, 5, -1 << 63, 1<<63 - 1} {
		b, e := d.Read(i)
		if len(b) != 0 {
			e = -1
		}
		got[fmt.Sprintf("Read(%d)", i)] = e
		got[fmt.Sprintf("Write(%d, a)", i)] = d.Write(i, whole('a'))
		got[fmt.Sprintf("Write(%d, none)", i)] = d.Write(i, nil)
	}
	for _, n := range []int{0, 1, api.SectorSize - 1, api.SectorSize + 1, 2 * api.SectorSize, api.PageSize} {
		got[fmt.Sprintf("Write of %d bytes", n)] = d.Write(1, make([]byte, n))
	}
	for _, cut := range []int{-1, api.SectorSize + 1, -1 << 63, 1<<63 - 1} {
		p := disk.Plan{Keep: []bool{true, true, true, true}, Torn: -1, Cut: cut}
		got[fmt.Sprintf("Crash by %v", p)] = d.Crash(p)
		got[fmt.Sprintf("Fuse(0, %v)", p)] = d.Fuse(0, p)
		got[fmt.Sprintf("Fuse(-1, %v)", p)] = d.Fuse(-1, p)
	}
	for _, k := range []int{-1, -2, -1 << 63} {
		got[fmt.Sprintf("Fuse(%d, none)", k)] = d.Fuse(k, disk.Plan{})
	}
	return got
}

// The errors, in their order: what is refused changes nothing, and no fuse burns by it.
func TestWrongCalls(t *testing.T) {
	d := made(t, 4)
	write(t, d, 1, whole('a'))
	flush(t, d)
	write(t, d, 1, whole('b'))
	light(t, d, 1, disk.Plan{Keep: []bool{false, true}, Torn: -1})
	for call, e := range wrongCalls(d) {
		answers(t, call, e, api.ErrArg)
	}
	stands(t, d, 1, 3, false)
	reads(t, d, whole(0), whole('b'), whole(0), whole(0))
	if r, e := d.Reopen(); r != nil || e != api.ErrState {
		t.Errorf("Reopen: %v, %v", r, e)
	}
	write(t, d, 2, whole('c'))
	for call, e := range wrongCalls(d) {
		answers(t, call, e, api.ErrArg)
	}
	stands(t, d, 2, 4, false)
	answers(t, "Flush by the fuse", d.Flush(), api.ErrDead)
	reads(t, opened(t, d), whole(0), whole('a'), whole('c'), whole(0))
}

// The errors of a dead disk: nothing is asked of it any more, whatever is handed in.
func TestDead(t *testing.T) {
	d := made(t, 4)
	write(t, d, 1, whole('a'))
	write(t, d, 2, whole('b'))
	crash(t, d, disk.Plan{Keep: []bool{true}, Torn: -1})
	for call, e := range wrongCalls(d) {
		answers(t, call, e, api.ErrDead)
	}
	if b, e := d.Read(1); len(b) != 0 || e != api.ErrDead {
		t.Errorf("Read: %q, %v", b, e)
	}
	answers(t, "Write", d.Write(1, whole('c')), api.ErrDead)
	answers(t, "Flush", d.Flush(), api.ErrDead)
	answers(t, "Crash", d.Crash(disk.Plan{Keep: []bool{true, true}, Torn: -1}), api.ErrDead)
	answers(t, "Fuse", d.Fuse(0, disk.Plan{}), api.ErrDead)
	stands(t, d, 0, 2, true)
	if d.Len() != 4 {
		t.Errorf("Len: %d", d.Len())
	}
	reads(t, opened(t, d), whole(0), whole('a'), whole(0), whole(0))
}

// P2.2: a disk that was opened again has nothing that waits, was done, or burns; the dead one stays dead, and may be opened again.
func TestReopen(t *testing.T) {
	d := made(t, 2)
	light(t, d, 2, disk.Plan{Keep: []bool{true, true, true}, Torn: -1})
	write(t, d, 0, whole('a'))
	write(t, d, 1, whole('b'))
	answers(t, "Write by the fuse", d.Write(0, whole('c')), api.ErrDead)
	first := opened(t, d)
	stands(t, first, 0, 0, false)
	reads(t, first, whole('c'), whole('b'))
	write(t, first, 1, whole('d'))
	flush(t, first)
	write(t, first, 0, whole('e'))
	flush(t, first)
	flush(t, first)
	stands(t, first, 0, 5, false)
	stands(t, d, 0, 2, true)
	answers(t, "Flush", d.Flush(), api.ErrDead)
	second := opened(t, d)
	reads(t, second, whole('c'), whole('b'))
	reads(t, first, whole('e'), whole('d'))
	if r, e := first.Reopen(); r != nil || e != api.ErrState {
		t.Errorf("Reopen of one that is not dead: %v, %v", r, e)
	}
	crash(t, first, disk.Plan{})
	reads(t, opened(t, first), whole('e'), whole('d'))
	reads(t, second, whole('c'), whole('b'))
}

// P2.2: a copy stands as the disk does, and goes its own way.
func TestCopy(t *testing.T) {
	d := made(t, 2)
	write(t, d, 0, whole('a'))
	flush(t, d)
	write(t, d, 1, whole('b'))
	write(t, d, 1, whole('c'))
	light(t, d, 2, disk.Plan{Keep: []bool{true, false, true, true}, Torn: 3, Cut: 5})
	c := d.Copy()
	stands(t, c, 2, 4, false)
	reads(t, c, whole('a'), whole('c'))

	write(t, d, 0, whole('d'))
	flush(t, d)
	stands(t, c, 2, 4, false)
	reads(t, c, whole('a'), whole('c'))
	answers(t, "Flush by the fuse", d.Flush(), api.ErrDead)
	stands(t, c, 2, 4, false)

	write(t, c, 0, whole('e'))
	stands(t, c, 3, 5, false)
	reads(t, c, whole('e'), whole('c'))
	cc := c.Copy()
	write(t, c, 0, whole('f'))
	answers(t, "Flush by the copy's fuse", c.Flush(), api.ErrDead)
	reads(t, opened(t, c), torn(5, 'f', 'e'), whole('b'))
	reads(t, opened(t, d), whole('d'), whole('c'))

	flush(t, cc)
	answers(t, "Write by the copy's copy's fuse", cc.Write(1, whole('g')), api.ErrDead)
	reads(t, opened(t, cc), whole('e'), whole('g'))
}

// P2.2: a copy of a dead disk is dead, and is opened again as it is.
func TestCopyDead(t *testing.T) {
	d := made(t, 1)
	write(t, d, 0, whole('a'))
	crash(t, d, disk.Plan{Keep: []bool{true}, Torn: -1})
	c := d.Copy()
	stands(t, c, 0, 1, true)
	answers(t, "Flush", c.Flush(), api.ErrDead)
	r := opened(t, c)
	write(t, r, 0, whole('b'))
	flush(t, r)
	reads(t, opened(t, c), whole('a'))
	reads(t, opened(t, d), whole('a'))
}

// P2.2: writes of a disk and of its copy, that wait, do not get in one another's way.
func TestCopyWaits(t *testing.T) {
	d := made(t, 8)
	for i := range 3 {
		write(t, d, i, whole('a'))
	}
	copies := []*disk.Disk{d, d.Copy(), d.Copy()}
	for i := 3; i < 8; i++ {
		for k, c := range copies {
			write(t, c, i, whole(byte('b'+k)))
		}
	}
	for k, c := range copies {
		a, b := whole('a'), whole(byte('b'+k))
		stands(t, c, 8, 8, false)
		reads(t, c, a, a, a, b, b, b, b, b)
		crash(t, c, disk.Plan{Keep: []bool{true, true, true, true, true, true, true, true}, Torn: -1})
		reads(t, opened(t, c), a, a, a, b, b, b, b, b)
	}
}
