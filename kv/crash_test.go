package kv_test

import (
	"maps"
	"math/rand/v2"
	"slices"
	"testing"

	"tollgate/api"
	"tollgate/disk"
	"tollgate/kv"
)

// step is something that is done to a KV, and in mind.
type step func(k *kv.KV, m mind) api.Errno

func puts(space int, key, value string) step {
	return func(k *kv.KV, m mind) api.Errno {
		m[at{space, key}] = value
		return k.Put(space, key, value)
	}
}

func dels(space int, key string) step {
	return func(k *kv.KV, m mind) api.Errno {
		delete(m, at{space, key})
		_, e := k.Del(space, key)
		return e
	}
}

// base is a disk with pairs that were committed more than once.
func base(t testing.TB) (*disk.Disk, mind) {
	t.Helper()
	d, k := created(t, 180)
	m := mind{}
	for _, l := range [][]step{
		{puts(1, "a", letters(350)), puts(1, "b", "b"), puts(2, "a", letters(99)), puts(3, "", letters(100))},
		{puts(1, "c", letters(812)), puts(2, "a", letters(101))},
	} {
		for _, s := range l {
			answers(t, "base", s(k, m), api.OK)
		}
		commit(t, k)
	}
	return d, m
}

// rows are rows of transactions, each of which is committed.
var rows = map[string][][]step{
	"nothing":      {{}},
	"one pair":     {{puts(9, "x", "new")}},
	"another one":  {{puts(1, "c", letters(270))}},
	"longer":       {{puts(1, "b", letters(640))}, {puts(1, "b", letters(30))}},
	"all are gone": {{dels(1, "a"), dels(1, "b"), dels(1, "c"), dels(2, "a"), dels(3, "")}, {puts(1, "a", "again")}},
	"some":         {{puts(1, "a", letters(200)), dels(1, "c"), puts(3, "", "")}, {puts(1, "c", letters(100)), dels(9, "none")}, {dels(1, "b")}},
}

// plans are plans of n writes: none of them kept, all, the first ones, any; some with one torn.
func plans(r *rand.Rand, n int) []disk.Plan {
	keeps := [][]bool{nil}
	for _, ahead := range []int{1, r.IntN(n + 1), n} {
		first, some := make([]bool, n), make([]bool, n)
		for i := range n {
			first[i], some[i] = i < ahead, r.IntN(2) == 0
		}
		keeps = append(keeps, first, some)
	}
	var all []disk.Plan
	for _, keep := range keeps {
		all = append(all, disk.Plan{Keep: keep, Torn: r.IntN(n+1) - 1, Cut: r.IntN(api.SectorSize + 1)})
		all = append(all, disk.Plan{Keep: keep, Torn: 0, Cut: r.IntN(48)}) // of a meta these bytes are not 0
	}
	return all
}

// run does a row, up to the first call that finds the disk dead; it tells the pairs that may be there then.
func run(t testing.TB, d *disk.Disk, m mind, row [][]step) []mind {
	t.Helper()
	k, e := kv.Open(d)
	answers(t, "Open", e, api.OK)
	kept := maps.Clone(m)
	for _, l := range row {
		for _, s := range l {
			if e := s(k, m); e != api.OK {
				answers(t, "step", e, api.ErrDead)
				return []mind{kept}
			}
		}
		if e := k.Commit(); e != api.OK {
			answers(t, "Commit", e, api.ErrDead)
			return []mind{kept, m}
		}
		kept = maps.Clone(m)
	}
	return []mind{kept}
}

// whole is everything that a KV has in the first spaces, as pairs in mind.
func whole(t testing.TB, k *kv.KV) mind {
	t.Helper()
	m := mind{}
	for space := range 10 {
		l, e := k.Range(space, "", "")
		answers(t, "Range", e, api.OK)
		for _, p := range l {
			m[at{space, p.Key}] = p.Value
		}
	}
	return m
}

// TestCrashes: behind a crash at each write and flush there are the pairs of the last commit that was told, or of the one under way.
func TestCrashes(t *testing.T) {
	d, m := base(t)
	for name, row := range rows {
		t.Run(name, func(t *testing.T) {
			t.Parallel()
			r := rand.New(rand.NewPCG(3, uint64(len(name))))
			calm := d.Copy()
			run(t, calm, maps.Clone(m), row)
			for fuse := range calm.Done() - d.Done() {
				for _, p := range plans(r, 40) {
					crashed(t, d.Copy(), maps.Clone(m), row, fuse, p)
				}
			}
		})
	}
}

func crashed(t *testing.T, d *disk.Disk, m mind, row [][]step, fuse int, p disk.Plan) {
	t.Helper()
	answers(t, "Fuse", d.Fuse(fuse, p), api.OK)
	may := run(t, d, m, row)
	if !d.Dead() {
		t.Fatalf("fuse %d: no crash", fuse)
	}
	_, k := reopened(t, d)
	got := whole(t, k)
	if !slices.ContainsFunc(may, func(m mind) bool { return maps.Equal(m, got) }) {
		t.Fatalf("fuse %d, %v: %d pairs", fuse, p, len(got))
	}
	put(t, k, 1, "on", "goes on")
	commit(t, k)
	has(t, k, 1, "on", "goes on")
}

// TestCrashAfterCrash: what goes on from what was found behind a crash is as sound, crash by crash.
func TestCrashAfterCrash(t *testing.T) {
	r := rand.New(rand.NewPCG(4, 1))
	for range 15 {
		d, m := base(t)
		for range 12 {
			row := [][]step{{puts(r.IntN(4), string(rune('a'+r.IntN(4))), letters(r.IntN(500)))}, {dels(r.IntN(4), string(rune('a'+r.IntN(4)))), puts(2, "z", letters(r.IntN(900)))}}
			l := plans(r, 60)
			answers(t, "Fuse", d.Fuse(r.IntN(90), l[r.IntN(len(l))]), api.OK)
			may := run(t, d, m, row)
			if !d.Dead() {
				answers(t, "Crash", d.Crash(disk.Plan{Torn: -1}), api.OK)
			}
			var k *kv.KV
			d, k = reopened(t, d)
			m = whole(t, k)
			if !slices.ContainsFunc(may, func(x mind) bool { return maps.Equal(m, x) }) {
				t.Fatalf("%d pairs that were never there", len(m))
			}
		}
	}
}
