package disk_test

import (
	"bytes"
	"math/rand/v2"
	"testing"

	"tollgate/api"
	"tollgate/disk"
)

// Example 1.
func TestExampleCrash(t *testing.T) {
	d := made(t, 4)
	write(t, d, 1, whole('a'))
	stands(t, d, 1, 1, false)
	reads(t, d, whole(0), whole('a'), whole(0), whole(0))
	crash(t, d, disk.Plan{})
	if b, e := d.Read(1); len(b) != 0 || e != api.ErrDead {
		t.Errorf("Read(1): %q, %v", b, e)
	}
	reads(t, opened(t, d), whole(0), whole(0), whole(0), whole(0))
}

// Example 2.
func TestExampleTorn(t *testing.T) {
	d := made(t, 4)
	write(t, d, 1, whole('a'))
	flush(t, d)
	write(t, d, 1, whole('b'))
	write(t, d, 2, whole('c'))
	crash(t, d, disk.Plan{Keep: []bool{false, true}, Torn: 0, Cut: 3})
	reads(t, opened(t, d), whole(0), torn(3, 'b', 'a'), whole('c'), whole(0))
}

// Example 3.
func TestExampleFuse(t *testing.T) {
	d := made(t, 4)
	light(t, d, 1, disk.Plan{Keep: []bool{true, true, true}, Torn: -1})
	write(t, d, 0, whole('a'))
	answers(t, "Write by the fuse", d.Write(1, whole('b')), api.ErrDead)
	reads(t, opened(t, d), whole('a'), whole('b'), whole(0), whole(0))
	if d, e := disk.New(0); d != nil || e != api.ErrArg {
		t.Errorf("New(0): %v, %v", d, e)
	}
	d = made(t, 4)
	answers(t, "Write(4, A)", d.Write(4, whole('a')), api.ErrArg)
	answers(t, "Write(0, none)", d.Write(0, nil), api.ErrArg)
	if r, e := d.Reopen(); r != nil || e != api.ErrState {
		t.Errorf("Reopen: %v, %v", r, e)
	}
}

// P2.2: what each plan leaves of three writes, a and b to the first sector, c to the second one; o was flushed.
func TestPlans(t *testing.T) {
	o, a, b, c := whole('o'), whole('a'), whole('b'), whole('c')
	yes, no := true, false
	for _, x := range []struct {
		p             disk.Plan
		first, second []byte
	}{
		{disk.Plan{Torn: -1}, o, o},
		{disk.Plan{Torn: 3, Cut: 9}, o, o},
		{disk.Plan{Torn: -1 << 63, Cut: 9}, o, o},
		{disk.Plan{Torn: 1<<63 - 1, Cut: 9}, o, o},
		{disk.Plan{}, o, o},
		{disk.Plan{Keep: []bool{yes}, Torn: -1}, a, o},
		{disk.Plan{Keep: []bool{no, yes}, Torn: -1}, b, o},
		{disk.Plan{Keep: []bool{no, no, yes}, Torn: -1}, o, c},
		{disk.Plan{Keep: []bool{yes, no, yes}, Torn: -1}, a, c},
		{disk.Plan{Keep: []bool{yes, yes, yes}, Torn: -1}, b, c},
		{disk.Plan{Keep: []bool{yes, yes, yes, yes, yes}, Torn: 4, Cut: 9}, b, c},
		// A torn one: as it is cut, whatever Keep says of it.
		{disk.Plan{Torn: 0, Cut: 1}, torn(1, 'a', 'o'), o},
		{disk.Plan{Torn: 1, Cut: 127}, torn(127, 'b', 'o'), o},
		{disk.Plan{Torn: 2, Cut: 64}, o, torn(64, 'c', 'o')},
		{disk.Plan{Keep: []bool{yes, yes, yes}, Torn: 2, Cut: 64}, b, torn(64, 'c', 'o')},
		{disk.Plan{Keep: []bool{no, no, yes}, Torn: 2, Cut: 0}, o, o},
		{disk.Plan{Torn: 2, Cut: 128}, o, c},
		// What stays is what lasts by then: of an earlier write that was kept, too; a later one is kept over it.
		{disk.Plan{Keep: []bool{yes}, Torn: 1, Cut: 3}, torn(3, 'b', 'a'), o},
		{disk.Plan{Keep: []bool{yes}, Torn: 1, Cut: 0}, a, o},
		{disk.Plan{Keep: []bool{yes}, Torn: 1, Cut: 128}, b, o},
		{disk.Plan{Keep: []bool{no, yes}, Torn: 0, Cut: 3}, b, o},
		{disk.Plan{Keep: []bool{yes, no}, Torn: 0, Cut: 3}, torn(3, 'a', 'o'), o},
	} {
		d := made(t, 3)
		for i := range 3 {
			write(t, d, i, o)
		}
		flush(t, d)
		write(t, d, 0, a)
		write(t, d, 0, b)
		write(t, d, 1, c)
		crash(t, d, x.p)
		stands(t, d, 0, 7, true)
		t.Logf("by %v", x.p)
		reads(t, opened(t, d), x.first, x.second, o)
	}
}

// R3: what a plan keeps is not changed, not kept, and not read beyond its length.
func TestPlanMemory(t *testing.T) {
	keep := []bool{true, false, true, true}
	d := made(t, 3)
	light(t, d, 3, disk.Plan{Keep: keep[:2], Torn: -1})
	e := made(t, 3)
	for i := range 3 {
		write(t, d, i, whole('a'))
		write(t, e, i, whole('a'))
	}
	crash(t, e, disk.Plan{Keep: keep[:2], Torn: -1})
	if keep[0] != true || keep[1] != false || keep[2] != true || keep[3] != true {
		t.Errorf("the plan's list was changed: %v", keep)
	}
	keep[0], keep[1] = false, true
	answers(t, "Flush by the fuse", d.Flush(), api.ErrDead)
	reads(t, opened(t, d), whole('a'), whole(0), whole(0))
	reads(t, opened(t, e), whole('a'), whole(0), whole(0))
}

// P2.2, P2.5: just Writes and Flushes that are not refused burn a fuse.
func TestFuseCounts(t *testing.T) {
	all := disk.Plan{Keep: []bool{true, true, true}, Torn: -1}
	d := made(t, 2)
	light(t, d, 3, all)
	c := d.Copy()
	for range 10 {
		d.Read(0)
		d.Read(9)
		d.Write(9, whole('a'))
		d.Write(0, nil)
		d.Len()
		d.Waits()
		d.Done()
		d.Dead()
		d.Copy().Flush()
		d.Reopen()
		d.Crash(disk.Plan{Cut: -1})
		d.Fuse(-1, all)
		d.Fuse(0, disk.Plan{Cut: 129})
	}
	stands(t, d, 0, 0, false)
	write(t, d, 0, whole('a'))
	flush(t, d)
	write(t, d, 1, whole('b'))
	stands(t, d, 1, 3, false)
	answers(t, "Flush by the fuse", d.Flush(), api.ErrDead)
	stands(t, d, 0, 3, true)
	reads(t, opened(t, d), whole('a'), whole('b'))

	for range 3 {
		flush(t, c)
	}
	answers(t, "Write by the fuse", c.Write(0, whole('a')), api.ErrDead)
	stands(t, c, 0, 3, true)
	reads(t, opened(t, c), whole('a'), whole(0))
}

// P2.2: a fuse of 0 lets the very next one crash; a write waits by then, and is asked of the plan as the last one.
func TestFuseNone(t *testing.T) {
	for _, x := range []struct {
		p    disk.Plan
		want []byte
	}{
		{disk.Plan{}, whole('o')},
		{disk.Plan{Keep: []bool{true}, Torn: -1}, whole('a')},
		{disk.Plan{Keep: []bool{true, true}, Torn: -1}, whole('b')},
		{disk.Plan{Keep: []bool{true}, Torn: 1, Cut: 5}, torn(5, 'b', 'a')},
		{disk.Plan{Torn: 1, Cut: 5}, torn(5, 'b', 'o')},
	} {
		d := made(t, 1)
		write(t, d, 0, whole('o'))
		flush(t, d)
		write(t, d, 0, whole('a'))
		light(t, d, 0, x.p)
		stands(t, d, 1, 3, false)
		reads(t, d, whole('a'))
		answers(t, "Write by the fuse", d.Write(0, whole('b')), api.ErrDead)
		stands(t, d, 0, 3, true)
		reads(t, opened(t, d), x.want)
	}
	d := made(t, 1)
	write(t, d, 0, whole('a'))
	light(t, d, 0, disk.Plan{Torn: 0, Cut: 2})
	answers(t, "Flush by the fuse", d.Flush(), api.ErrDead)
	stands(t, d, 0, 1, true)
	reads(t, opened(t, d), torn(2, 'a', 0))
}

// P2.2: a fuse takes the place of the one that there was, whichever is longer; a refused one does not.
func TestFuseAgain(t *testing.T) {
	none, all := disk.Plan{}, disk.Plan{Keep: []bool{true}, Torn: -1}
	d := made(t, 1)
	light(t, d, 0, none)
	light(t, d, 2, all)
	flush(t, d)
	flush(t, d)
	light(t, d, 1<<63-1, none)
	flush(t, d)
	light(t, d, 1, all)
	answers(t, "Fuse(-1, ..)", d.Fuse(-1, none), api.ErrArg)
	answers(t, "Fuse(0, wrong)", d.Fuse(0, disk.Plan{Cut: -1}), api.ErrArg)
	flush(t, d)
	answers(t, "Write by the fuse", d.Write(0, whole('a')), api.ErrDead)
	stands(t, d, 0, 4, true)
	reads(t, opened(t, d), whole('a'))
}

// P2.2: Crash crashes by its own plan, whatever the fuse's is; behind it no fuse is left.
func TestCrashAheadOfFuse(t *testing.T) {
	d := made(t, 2)
	light(t, d, 1, disk.Plan{Keep: []bool{true}, Torn: -1})
	write(t, d, 0, whole('a'))
	crash(t, d, disk.Plan{})
	stands(t, d, 0, 1, true)
	r := opened(t, d)
	reads(t, r, whole(0), whole(0))
	for range 5 {
		flush(t, r)
	}
	stands(t, r, 0, 5, false)
}

// step is a Write (of the byte c to the sector at), or a Flush, if at is -1.
type step struct {
	at int
	c  byte
}

func (s step) do(d *disk.Disk) api.Errno {
	if s.at < 0 {
		return d.Flush()
	}
	return d.Write(s.at, whole(s.c))
}

// left are the writes that wait behind these steps, and the bytes of the sectors that last.
func left(steps []step, n int) (waits []step, lasts []byte) {
	lasts = make([]byte, n)
	for _, s := range steps {
		waits = append(waits, s)
		if s.at >= 0 {
			continue
		}
		for _, w := range waits[:len(waits)-1] {
			lasts[w.at] = w.c
		}
		waits = nil
	}
	return waits, lasts
}

// behind is the byte k of the sector i behind a crash by the plan: the last one that the plan lets last of it.
func behind(waits []step, lasts []byte, p disk.Plan, i, k int) byte {
	for place := len(waits) - 1; place >= 0; place-- {
		if waits[place].at != i {
			continue
		}
		kept := place < len(p.Keep) && p.Keep[place]
		if place == p.Torn {
			kept = k < p.Cut
		}
		if kept {
			return waits[place].c
		}
	}
	return lasts[i]
}

// wanted are the sectors behind a crash by the plan.
func wanted(waits []step, lasts []byte, p disk.Plan) [][]byte {
	all := make([][]byte, len(lasts))
	for i := range all {
		for k := range api.SectorSize {
			all[i] = append(all[i], behind(waits, lasts, p, i, k))
		}
	}
	return all
}

// P2.3, P2.4: all plans of four writes over three sectors, one of which is not written.
func TestAllPlans(t *testing.T) {
	steps := []step{{0, 'o'}, {1, 'p'}, {2, 'q'}, {-1, 0}, {0, 'a'}, {1, 'b'}, {0, 'c'}, {0, 'd'}}
	d := made(t, 3)
	for _, s := range steps {
		answers(t, "step", s.do(d), api.OK)
	}
	waits, lasts := left(steps, 3)
	for bits := range 1 << 5 {
		for n := range 6 {
			keep := make([]bool, n)
			for i := range keep {
				keep[i] = bits>>i&1 == 1
			}
			for torn := -1; torn <= 5; torn++ {
				for _, cut := range []int{0, 1, 64, 127, 128} {
					p := disk.Plan{Keep: keep, Torn: torn, Cut: cut}
					c := d.Copy()
					crash(t, c, p)
					reads(t, opened(t, c), wanted(waits, lasts, p)...)
					if t.Failed() {
						t.Fatalf("by %v", p)
					}
				}
			}
		}
	}
}

// someSteps are steps on n sectors, less than most; flushes are few, so that plans have what to keep.
func someSteps(r *rand.Rand, n, most int) []step {
	steps := make([]step, r.IntN(most))
	for i := range steps {
		steps[i] = step{r.IntN(n), byte(i + 1)}
		if r.IntN(6) == 0 {
			steps[i] = step{at: -1}
		}
	}
	return steps
}

func somePlan(r *rand.Rand) disk.Plan {
	keep := make([]bool, r.IntN(12))
	for i := range keep {
		keep[i] = r.IntN(2) == 0
	}
	return disk.Plan{Keep: keep, Torn: r.IntN(14) - 2, Cut: r.IntN(api.SectorSize + 1)}
}

// P2.1 to P2.4: whatever is done, and crashed, again and again on the disk that is opened then.
func TestRows(t *testing.T) {
	r := rand.New(rand.NewPCG(2, 3))
	for range 300 {
		n := 1 + r.IntN(5)
		d := made(t, n)
		var before []step // what makes the disk as it was opened last
		for range 5 {
			steps := someSteps(r, n, 30)
			all := before
			for i, s := range steps {
				answers(t, "step", s.do(d), api.OK)
				all = append(all[:len(all):len(all)], s)
				waits, lasts := left(all, n)
				stands(t, d, len(waits), i+1, false)
				now := wanted(waits, lasts, disk.Plan{Keep: keepAll(len(waits)), Torn: -1})
				reads(t, d, now...)
			}
			waits, lasts := left(all, n)
			p := somePlan(r)
			p.Cut = p.Cut / api.SectorSize * api.SectorSize // whole sectors, so that steps can make them again
			crash(t, d, p)
			sectors := wanted(waits, lasts, p)
			d = opened(t, d)
			reads(t, d, sectors...)
			before = nil
			for i, s := range sectors {
				before = append(before, step{i, s[0]})
			}
			before = append(before, step{at: -1})
			if t.Failed() {
				t.FailNow()
			}
		}
	}
}

// keepAll keeps the first n writes.
func keepAll(n int) []bool {
	keep := make([]bool, n)
	for i := range keep {
		keep[i] = true
	}
	return keep
}

// P2.5: each fuse does what Crash does ahead of the one that it lets crash, but that a write waits by then.
func TestFuseIsCrash(t *testing.T) {
	r := rand.New(rand.NewPCG(4, 5))
	for range 300 {
		n := 1 + r.IntN(4)
		steps := someSteps(r, n, 20)
		p := somePlan(r)
		for k := range len(steps) + 1 {
			d := made(t, n)
			light(t, d, k, p)
			for _, s := range steps[:k] {
				answers(t, "step ahead of the fuse's end", s.do(d), api.OK)
				d.Read(0)
				d.Write(n, whole('z'))
			}
			if k == len(steps) {
				stands(t, d, d.Waits(), k, false)
				break
			}
			waits, lasts := left(steps[:k], n)
			if steps[k].at >= 0 {
				waits = append(waits, steps[k])
			}
			answers(t, "step by the fuse", steps[k].do(d), api.ErrDead)
			stands(t, d, 0, k, true)
			got := opened(t, d)
			reads(t, got, wanted(waits, lasts, p)...)

			// The same by Crash, on a disk where the write waits.
			c := made(t, n)
			for _, s := range steps[:k] {
				answers(t, "step", s.do(c), api.OK)
			}
			if steps[k].at >= 0 {
				answers(t, "step", steps[k].do(c), api.OK)
			}
			crash(t, c, p)
			alike(t, got, opened(t, c))
			if t.Failed() {
				t.Fatalf("k %d of %v by %v", k, steps, p)
			}
		}
	}
}

// alike asks that two disks read the same.
func alike(t *testing.T, a, b *disk.Disk) {
	t.Helper()
	for i := range a.Len() {
		x, e := a.Read(i)
		y, f := b.Read(i)
		if e != api.OK || f != api.OK || !bytes.Equal(x, y) {
			t.Errorf("Read(%d): %q, %v and %q, %v", i, x, e, y, f)
		}
	}
}
