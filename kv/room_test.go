package kv

import (
	"fmt"
	"math/rand/v2"
	"strings"
	"testing"

	"tollgate/api"
	"tollgate/disk"
)

// bed is a KV on a disk of 16384 pages.
func bed(t *testing.T) *KV {
	t.Helper()
	d, e := disk.New(api.MaxSectors)
	if e != api.OK {
		t.Fatal(e)
	}
	k, e := Create(d)
	if e != api.OK {
		t.Fatal(e)
	}
	return k
}

func done(t *testing.T, call string, e api.Errno) {
	t.Helper()
	if e != api.OK {
		t.Fatalf("%s: error %d", call, e)
	}
}

// leave takes pages, till so many are free.
func leave(t *testing.T, k *KV, n int) {
	t.Helper()
	for k.Free() > n {
		_, e := k.pager.Alloc()
		done(t, "Alloc", e)
	}
}

// planted is a KV with pairs that were committed in some order: so its pages are full to unlike degrees.
func planted(t *testing.T, r *rand.Rand, key func(i int) string, size int) *KV {
	t.Helper()
	k := bed(t)
	const pairs = 150
	for n, i := range r.Perm(pairs) {
		done(t, "Put", k.Put(i%3, key(i), strings.Repeat("v", r.IntN(size+1))))
		if n%40 == 0 {
			done(t, "Commit", k.Commit())
		}
	}
	for i := range pairs {
		if r.IntN(4) == 0 {
			_, e := k.Del(i%3, key(i))
			done(t, "Del", e)
		}
	}
	done(t, "Commit", k.Commit())
	return k
}

var keys = map[string]func(i int) string{
	"short": func(i int) string { return fmt.Sprint(i) },
	"long":  func(i int) string { return fmt.Sprintf("%03d%s", i, strings.Repeat("k", MaxName-3)) },
	"alike": func(i int) string { return fmt.Sprintf("%s%03d", strings.Repeat("k", MaxName-3), i) },
}

// TestRoom: with as many pages as are needed a call is done, and takes no more; with one less it is refused.
func TestRoom(t *testing.T) {
	for name, key := range keys {
		t.Run(name, func(t *testing.T) {
			t.Parallel()
			r := rand.New(rand.NewPCG(11, 1))
			for _, size := range []int{0, 90, 250, 2000} {
				for _, now := range []int{0, 99, 100, 777, 20000, api.MaxRecord} {
					k := planted(t, r, key, size)
					i := r.IntN(170)
					putInRoom(t, k, i%3, key(i), now)
					done(t, "Commit", k.Commit())
					delInRoom(t, k, i%3, key(i))
				}
			}
		})
	}
}

func putInRoom(t *testing.T, k *KV, space int, key string, size int) {
	t.Helper()
	n, e := k.Need(space, key, size)
	done(t, "Need", e)
	value := strings.Repeat("w", size)
	leave(t, k, n-1)
	if e := k.Put(space, key, value); e != api.ErrFull || k.Free() != n-1 {
		t.Fatalf("Put with %d of %d pages: %d", n-1, n, e)
	}
	done(t, "Abort", k.Abort())
	leave(t, k, n)
	done(t, "Put", k.Put(space, key, value))
	if v, ok, e := k.Get(space, key); v != value || !ok || e != api.OK {
		t.Fatalf("Get: %d bytes, %v, %d", len(v), ok, e)
	}
	done(t, "Abort", k.Abort())
	done(t, "Put", k.Put(space, key, value))
}

func delInRoom(t *testing.T, k *KV, space int, key string) {
	t.Helper()
	v, _, e := k.Get(space, key)
	done(t, "Get", e)
	n := 64 + 6*(len(v)/100+1)
	leave(t, k, n-1)
	if was, e := k.Del(space, key); was || e != api.ErrFull || k.Free() != n-1 {
		t.Fatalf("Del with %d of %d pages: %v, %d", n-1, n, was, e)
	}
	leave(t, k, 0)
	if was, e := k.Del(space, "none"); was || e != api.OK {
		t.Fatalf("Del of none without a free page: %v, %d", was, e)
	}
	done(t, "Abort", k.Abort())
	leave(t, k, n)
	if was, e := k.Del(space, key); !was || e != api.OK {
		t.Fatalf("Del with %d pages: %v, %d", n, was, e)
	}
	done(t, "Abort", k.Abort())
}

// TestAllIsFree: behind Del of all pairs and a Commit all pages but the metas are free.
func TestAllIsFree(t *testing.T) {
	for name, key := range keys {
		k := planted(t, rand.New(rand.NewPCG(12, 1)), key, 700)
		for space := range 3 {
			l, e := k.Range(space, "", "")
			done(t, "Range", e)
			for _, p := range l {
				_, e := k.Del(space, p.Key)
				done(t, "Del", e)
			}
		}
		done(t, "Commit", k.Commit())
		if k.Free() != k.pager.Pages()-2 {
			t.Errorf("%s: %d pages of %d are free", name, k.Free(), k.pager.Pages())
		}
	}
}
