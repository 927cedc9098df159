package kv_test

import (
	"slices"
	"strings"
	"testing"

	"tollgate/api"
	"tollgate/disk"
	"tollgate/kv"
	"tollgate/pager"
	"tollgate/tree"
)

// created is a KV on a disk of so many pages.
func created(t testing.TB, pages int) (*disk.Disk, *kv.KV) {
	t.Helper()
	d, e := disk.New(4 * pages)
	answers(t, "disk.New", e, api.OK)
	k, e := kv.Create(d)
	answers(t, "Create", e, api.OK)
	return d, k
}

// reopened is the KV that is found on a disk behind a crash that keeps nothing that waits.
func reopened(t testing.TB, d *disk.Disk) (*disk.Disk, *kv.KV) {
	t.Helper()
	c := d.Copy()
	if !c.Dead() {
		answers(t, "Crash", c.Crash(disk.Plan{Torn: -1}), api.OK)
	}
	r, e := c.Reopen()
	answers(t, "Reopen", e, api.OK)
	k, e := kv.Open(r)
	answers(t, "Open", e, api.OK)
	return r, k
}

func answers(t testing.TB, call string, got, want api.Errno) {
	t.Helper()
	if got != want {
		t.Fatalf("%s: error %d, not %d", call, got, want)
	}
}

func put(t testing.TB, k *kv.KV, space int, key, value string) {
	t.Helper()
	answers(t, "Put", k.Put(space, key, value), api.OK)
}

func commit(t testing.TB, k *kv.KV) {
	t.Helper()
	answers(t, "Commit", k.Commit(), api.OK)
}

// has asks that Get tells this value.
func has(t testing.TB, k *kv.KV, space int, key, want string) {
	t.Helper()
	got, ok, e := k.Get(space, key)
	if got != want || !ok || e != api.OK {
		t.Errorf("Get(%d, %q): %d bytes, %v, %d; not %d bytes", space, key, len(got), ok, e, len(want))
	}
}

// lacks asks that Get tells none.
func lacks(t testing.TB, k *kv.KV, space int, key string) {
	t.Helper()
	if got, ok, e := k.Get(space, key); got != "" || ok || e != api.OK {
		t.Errorf("Get(%d, %q): %d bytes, %v, %d; not none", space, key, len(got), ok, e)
	}
}

// ranges asks that Range tells these pairs: a key, a value, and so on.
func ranges(t testing.TB, k *kv.KV, space int, from, to string, want ...string) {
	t.Helper()
	l, e := k.Range(space, from, to)
	answers(t, "Range", e, api.OK)
	var got []string
	for _, p := range l {
		got = append(got, p.Key, p.Value)
	}
	if !slices.Equal(got, want) {
		t.Errorf("Range(%d, %q, %q): %.200q, not %.200q", space, from, to, got, want)
	}
}

// letters is a value of so many bytes, no 100 of which are like 100 others.
func letters(n int) string {
	var b strings.Builder
	for i := range n {
		b.WriteByte(byte(i ^ i/100))
	}
	return b.String()
}

func TestExamples(t *testing.T) {
	_, k := created(t, 1000)
	long := letters(250)
	put(t, k, 1, "a", long)
	has(t, k, 1, "a", long)
	lacks(t, k, 2, "a")
	if n, e := k.Need(1, "a", 0); n != 64+6+18 || e != api.OK {
		t.Errorf("Need: %d, %d", n, e)
	}
	if ok, e := k.Del(1, "a"); !ok || e != api.OK {
		t.Errorf("Del: %v, %d", ok, e)
	}
	answers(t, "Put to 256", k.Put(256, "a", ""), api.ErrArg)
	answers(t, "Put of a long key", k.Put(1, strings.Repeat("k", 37), ""), api.ErrArg)
	answers(t, "Put of a long value", k.Put(1, "a", strings.Repeat("v", 100001)), api.ErrArg)
	put(t, k, 1, "", "")
	has(t, k, 1, "", "")
	answers(t, "Abort", k.Abort(), api.OK)
	put(t, k, 1, "b", "x")
	put(t, k, 1, "a", "y")
	ranges(t, k, 1, "", "", "a", "y", "b", "x")
	ranges(t, k, 1, "a", "b", "a", "y")
	answers(t, "Abort", k.Abort(), api.OK)
	ranges(t, k, 1, "", "")
}

func TestCreateForgetsWhatWasThere(t *testing.T) {
	d, k := created(t, 200)
	if k.Free() != 198 || k.Seq() != 1 {
		t.Errorf("new: %d free, number %d", k.Free(), k.Seq())
	}
	put(t, k, 1, "a", "x")
	commit(t, k)
	k, e := kv.Create(d)
	answers(t, "Create", e, api.OK)
	lacks(t, k, 1, "a")
	if k.Free() != 198 || k.Seq() != 1 {
		t.Errorf("once more: %d free, number %d", k.Free(), k.Seq())
	}
	_, k = reopened(t, d)
	lacks(t, k, 1, "a")
}

func TestOpenFindsWhatWasCommittedLast(t *testing.T) {
	d, k := created(t, 300)
	put(t, k, 1, "a", "old")
	put(t, k, 1, "b", letters(900))
	commit(t, k)
	put(t, k, 1, "a", letters(1200))
	commit(t, k)
	free := k.Free()
	put(t, k, 1, "c", "not committed")
	if _, e := k.Del(1, "b"); e != api.OK {
		t.Fatal(e)
	}
	_, r := reopened(t, d)
	has(t, r, 1, "a", letters(1200))
	has(t, r, 1, "b", letters(900))
	lacks(t, r, 1, "c")
	if r.Seq() != 3 || r.Free() != free {
		t.Errorf("opened: number %d, %d free, not %d", r.Seq(), r.Free(), free)
	}
}

// TestValues: of each length from none to some parts, and of the greatest ones, in the place of one another.
func TestValues(t *testing.T) {
	d, k := created(t, 16000)
	lengths := []int{99900, 99901, 99999, 100000, 0, 100000}
	for n := range 320 {
		lengths = append(lengths, n)
	}
	for _, n := range append(lengths, 25599, 25600, 25700, 0) {
		v := letters(n)
		put(t, k, 7, "key", v)
		has(t, k, 7, "key", v)
		ranges(t, k, 7, "", "", "key", v)
		if n > 320 {
			commit(t, k)
			_, r := reopened(t, d)
			has(t, r, 7, "key", v)
		}
	}
	for _, v := range []string{"\x00", strings.Repeat("\x00", 100), strings.Repeat("\xff", 101), "\xff\x00é", letters(200)} {
		put(t, k, 7, v[:1], v)
		has(t, k, 7, v[:1], v)
	}
}

func TestDel(t *testing.T) {
	_, k := created(t, 500)
	for _, n := range []int{0, 1, 99, 100, 101, 5000} {
		put(t, k, 1, "a", letters(n))
		put(t, k, 1, "b", "stays")
		for _, want := range []bool{true, false} {
			if was, e := k.Del(1, "a"); was != want || e != api.OK {
				t.Errorf("Del of %d bytes: %v, %d", n, was, e)
			}
			lacks(t, k, 1, "a")
			ranges(t, k, 1, "", "", "b", "stays")
		}
	}
	if was, e := k.Del(2, "b"); was || e != api.OK {
		t.Errorf("Del in another space: %v, %d", was, e)
	}
	has(t, k, 1, "b", "stays")
}

func TestRange(t *testing.T) {
	_, k := created(t, 2000)
	keys := []string{"", "\x00", "\x00\x00", "A", "a", "a\x00", "aa", "ab", "b", "b" + strings.Repeat("\xff", 35), "ba", strings.Repeat("z", 36), "\xff", "\xff\xff"}
	slices.Sort(keys)
	for i := range keys {
		put(t, k, 3, keys[(i*5)%len(keys)], "v"+keys[(i*5)%len(keys)])
	}
	ends := append([]string{"a\x00\x00", "0", strings.Repeat("z", 37), strings.Repeat("\xff", 100), "az"}, keys...)
	for _, from := range ends {
		for _, to := range ends {
			var want []string
			for _, x := range keys {
				if x >= from && (to == "" || x < to) {
					want = append(want, x, "v"+x)
				}
			}
			ranges(t, k, 3, from, to, want...)
		}
	}
}

// TestSpaces: each one has pairs of its own, also where keys look like other spaces' numbers.
func TestSpaces(t *testing.T) {
	_, k := created(t, 4000)
	m := mind{}
	for space := range 256 {
		m.put(t, k, space, "a", letters(space*3))
		m.put(t, k, space, string([]byte{byte(space)}), "own")
	}
	for space := 0; space < 256; space += 3 {
		m.del(t, k, space, "a")
	}
	for space := range 256 {
		m.holds(t, k, space)
	}
}

func TestNeed(t *testing.T) {
	_, k := created(t, 8000)
	put(t, k, 1, "b", letters(99))
	put(t, k, 1, "c", letters(100))
	put(t, k, 1, "d", letters(100000))
	for _, x := range []struct {
		space int
		key   string
		size  int
		want  int
	}{
		{1, "a", 0, 70}, {1, "a", 99, 70}, {1, "a", 100, 76}, {1, "a", 199, 76}, {1, "a", 200, 82}, {1, "a", 100000, 64 + 6006},
		{1, "b", 0, 76}, {1, "b", 100, 82}, {1, "c", 0, 82}, {1, "c", 250, 94}, {1, "d", 0, 64 + 6 + 6006}, {1, "d", 100000, 64 + 12012},
		{2, "b", 0, 70}, {0, "", 0, 70}, {255, strings.Repeat("k", 36), 1, 70},
	} {
		if n, e := k.Need(x.space, x.key, x.size); n != x.want || e != api.OK {
			t.Errorf("Need(%d, %.9q, %d): %d, %d; not %d", x.space, x.key, x.size, n, e, x.want)
		}
	}
}

func TestAbort(t *testing.T) {
	d, k := created(t, 400)
	put(t, k, 1, "a", letters(700))
	put(t, k, 1, "b", "b")
	commit(t, k)
	free := k.Free()
	for range 3 {
		put(t, k, 1, "a", "new")
		put(t, k, 2, "c", letters(300))
		if _, e := k.Del(1, "b"); e != api.OK {
			t.Fatal(e)
		}
		answers(t, "Abort", k.Abort(), api.OK)
		ranges(t, k, 1, "", "", "a", letters(700), "b", "b")
		ranges(t, k, 2, "", "")
		if k.Free() != free || k.Seq() != 2 {
			t.Errorf("behind Abort: %d free, not %d; number %d", k.Free(), free, k.Seq())
		}
	}
	put(t, k, 1, "b", "c")
	commit(t, k)
	_, r := reopened(t, d)
	ranges(t, r, 1, "", "", "a", letters(700), "b", "c")
}

func TestNil(t *testing.T) {
	for name, open := range map[string]func(*disk.Disk) (*kv.KV, api.Errno){"Create": kv.Create, "Open": kv.Open} {
		if k, e := open(nil); k != nil || e != api.ErrNil {
			t.Errorf("%s: %v, %d", name, k, e)
		}
	}
	for _, k := range []*kv.KV{nil, {}} {
		v, ok, e := k.Get(1, "a")
		was, e2 := k.Del(1, "a")
		l, e3 := k.Range(1, "", "")
		n, e4 := k.Need(1, "a", 1)
		if v != "" || ok || was || l != nil || n != 0 || k.Free() != 0 || k.Seq() != 0 {
			t.Error(v, ok, was, l, n)
		}
		for i, e := range []api.Errno{e, e2, e3, e4, k.Put(1, "a", "x"), k.Commit(), k.Abort()} {
			if e != api.ErrNil {
				t.Errorf("%d: %d", i, e)
			}
		}
	}
	var none *kv.KV
	answers(t, "Put", none.Put(-1, "", ""), api.ErrNil)
}

// refusals are what is answered by all calls that take a space and a key, and zeros are asked of them.
func refusals(t testing.TB, k *kv.KV, space int, key string) []api.Errno {
	t.Helper()
	v, ok, e := k.Get(space, key)
	was, e2 := k.Del(space, key)
	n, e3 := k.Need(space, key, 1)
	if v != "" || ok || was || n != 0 {
		t.Errorf("beside an error: %q, %v, %v, %d", v, ok, was, n)
	}
	return []api.Errno{e, e2, e3, k.Put(space, key, "x")}
}

func TestWrongArguments(t *testing.T) {
	d, k := created(t, 300)
	put(t, k, 1, "a", "x")
	free := k.Free()
	ask := func(what string) {
		for _, space := range []int{-1, 256, 257, 1 << 40, -1 << 63} {
			for _, e := range refusals(t, k, space, "a") {
				answers(t, what+": space", e, api.ErrArg)
			}
			if l, e := k.Range(space, "", ""); l != nil || e != api.ErrArg {
				t.Errorf("%s: Range in %d: %v, %d", what, space, l, e)
			}
		}
		for _, e := range refusals(t, k, 1, strings.Repeat("k", 37)) {
			answers(t, what+": key", e, api.ErrArg)
		}
		answers(t, what+": value", k.Put(1, "a", strings.Repeat("v", 100001)), api.ErrArg)
		for _, size := range []int{-1, 100001, 1 << 62, -1 << 63} {
			if n, e := k.Need(1, "a", size); n != 0 || e != api.ErrArg {
				t.Errorf("%s: Need of %d bytes: %d, %d", what, size, n, e)
			}
		}
	}
	ask("alive")
	ranges(t, k, 1, "", "", "a", "x")
	ranges(t, k, 1, strings.Repeat("k", 50), strings.Repeat("k", 60))
	if k.Free() != free {
		t.Errorf("%d free, not %d", k.Free(), free)
	}
	answers(t, "Crash", d.Crash(disk.Plan{Torn: -1}), api.OK)
	ask("dead")
}

func TestDeadDisk(t *testing.T) {
	d, k := created(t, 300)
	put(t, k, 1, "a", "x")
	commit(t, k)
	answers(t, "Crash", d.Crash(disk.Plan{Torn: -1}), api.OK)
	for _, key := range []string{"a", "none"} {
		for _, e := range refusals(t, k, 1, key) {
			answers(t, "dead", e, api.ErrDead)
		}
	}
	if l, e := k.Range(1, "", ""); l != nil || e != api.ErrDead {
		t.Errorf("Range: %v, %d", l, e)
	}
	answers(t, "Commit", k.Commit(), api.ErrDead)
	answers(t, "Abort", k.Abort(), api.ErrDead)
	for name, open := range map[string]func(*disk.Disk) (*kv.KV, api.Errno){"Create": kv.Create, "Open": kv.Open} {
		if k, e := open(d); k != nil || e != api.ErrDead {
			t.Errorf("%s: %v, %d", name, k, e)
		}
	}
}

// TestDeadAheadOfFull: what the tree answers comes ahead of ErrFull, also where there is no page to read.
func TestDeadAheadOfFull(t *testing.T) {
	for _, pages := range []int{3, 70, 71, 72, 300} {
		d, k := created(t, pages)
		want := api.ErrFull
		if pages >= 72 {
			want = api.OK
		}
		answers(t, "Put", k.Put(1, "a", ""), want)
		answers(t, "Abort", k.Abort(), api.OK)
		answers(t, "Crash", d.Crash(disk.Plan{Torn: -1}), api.OK)
		answers(t, "Put on a dead disk", k.Put(1, "a", ""), api.ErrDead)
	}
}

func TestCreateOpenRefuse(t *testing.T) {
	small, _ := disk.New(11)
	fresh, _ := disk.New(400)
	for _, x := range []struct {
		name string
		open func(*disk.Disk) (*kv.KV, api.Errno)
		d    *disk.Disk
		want api.Errno
	}{{"Create", kv.Create, small, api.ErrArg}, {"Open", kv.Open, small, api.ErrArg}, {"Open", kv.Open, fresh, api.ErrMeta}} {
		if k, e := x.open(x.d); k != nil || e != x.want {
			t.Errorf("%s: %v, %d, not %d", x.name, k, e, x.want)
		}
	}
}

// TestDamage: pages that were spoilt are told by Open, and by calls that need them, which change nothing.
func TestDamage(t *testing.T) {
	d, k := created(t, 300)
	for _, key := range []string{"a", "b", "c"} {
		put(t, k, 1, key, letters(1000))
	}
	commit(t, k)
	for i := 8; i < d.Len(); i++ {
		b, e := d.Read(i)
		answers(t, "Read", e, api.OK)
		b[5]++
		answers(t, "Write", d.Write(i, b), api.OK)
	}
	free := k.Free()
	for _, e := range refusals(t, k, 1, "a") {
		answers(t, "spoilt", e, api.ErrSum)
	}
	if l, e := k.Range(1, "", ""); l != nil || e != api.ErrSum || k.Free() != free {
		t.Errorf("Range: %v, %d; %d free, not %d", l, e, k.Free(), free)
	}
	if k, e := kv.Open(d); k != nil || e != api.ErrSum {
		t.Errorf("Open: %v, %d", k, e)
	}
}

// TestDamageBeside: a call that finds a spoilt page when some of it is done already undoes that.
func TestDamageBeside(t *testing.T) {
	late := 0
	for at := 8; at < 160; at += 4 {
		for ahead := 100; ahead < 2000; ahead += 100 {
			late += besideSpoilt(t, at, ahead, 990) + besideSpoilt(t, at, ahead, 1490)
		}
	}
	if late == 0 {
		t.Error("none was refused")
	}
}

// besideSpoilt changes a pair whose own pages are sound, where another page may be spoilt, and tells how many changes were refused.
func besideSpoilt(t *testing.T, at, ahead, size int) int {
	d, k := created(t, 300)
	put(t, k, 1, "a", letters(ahead))
	put(t, k, 1, "b", letters(size))
	put(t, k, 1, "c", letters(ahead))
	commit(t, k)
	b, e := d.Read(at)
	answers(t, "Read", e, api.OK)
	b[5]++
	answers(t, "Write", d.Write(at, b), api.OK)
	if _, _, e := k.Get(1, "b"); e != api.OK {
		return 0
	}
	refused := 0
	settle := func(e api.Errno) {
		if e == api.OK {
			answers(t, "Abort", k.Abort(), api.OK)
		} else {
			answers(t, "beside a spoilt page", e, api.ErrSum)
			refused++
		}
		has(t, k, 1, "b", letters(size))
	}
	for _, n := range []int{0, 100, 450} {
		settle(k.Put(1, "b", strings.Repeat("w", n)))
	}
	_, e = k.Del(1, "b")
	settle(e)
	return refused
}

// TestForeignCells: cells of a tree that no KV wrote are refused, and no call ends in a panic.
func TestForeignCells(t *testing.T) {
	full := strings.Repeat("v", 100)
	for _, l := range [][]tree.Cell{
		{{Key: "\x01"}}, {{Key: "\x01\x01"}}, {{Key: "\x01\x01a"}}, {{Key: "\x01\x01a\x00"}}, {{Key: "\x01\x02a\x00\x00"}}, {{Key: "\x01\x01a\x00\x00\x00"}},
		{{Key: "\x01\x01a\x00\x01"}}, {{Key: "\x01\x01a\x00\x00", Value: full}},
		{{Key: "\x01\x01a\x00\x00", Value: "v"}, {Key: "\x01\x01a\x00\x01", Value: "v"}},
		{{Key: "\x01\x01a\x00\x00", Value: full}, {Key: "\x01\x01a\x00\x02", Value: "v"}},
		{{Key: "\x01\x01a\x00\x00", Value: full}, {Key: "\x01\x01a\x01\x00", Value: "v"}},
	} {
		d, _ := disk.New(1200)
		p, e := pager.Format(d)
		answers(t, "Format", e, api.OK)
		x, e := tree.New(p, 0)
		answers(t, "New", e, api.OK)
		for _, c := range l {
			answers(t, "tree.Put", x.Put(c.Key, c.Value), api.OK)
		}
		answers(t, "tree.Commit", x.Commit(), api.OK)
		k, e := kv.Open(d)
		answers(t, "Open", e, api.OK)
		if got, e := k.Range(1, "", ""); got != nil || e != api.ErrForm {
			t.Errorf("%q: Range: %q, %d", l, got, e)
		}
		if strings.HasPrefix(l[0].Key, "\x01\x01a") {
			for _, e := range refusals(t, k, 1, "a") {
				answers(t, "foreign", e, api.ErrForm)
			}
		}
		ranges(t, k, 2, "", "")
		put(t, k, 2, "a", "x")
		has(t, k, 2, "a", "x")
	}
}

// TestApart: what is handed out is the caller's.
func TestApart(t *testing.T) {
	_, k := created(t, 300)
	put(t, k, 1, "a", "x")
	put(t, k, 1, "b", "y")
	l, e := k.Range(1, "", "")
	answers(t, "Range", e, api.OK)
	l[0] = kv.Pair{Key: "b", Value: "z"}
	_ = append(l[:1], kv.Pair{})
	ranges(t, k, 1, "", "", "a", "x", "b", "y")
}
