package kv_test

import (
	"fmt"
	"maps"
	"math/rand/v2"
	"slices"
	"strings"
	"testing"

	"tollgate/api"
	"tollgate/kv"
)

// at is where a pair is.
type at struct {
	space int
	key   string
}

// mind are pairs in mind.
type mind map[at]string

// between are the pairs of a space between two keys.
func (m mind) between(space int, from, to string) []string {
	var keys, l []string
	for a := range m {
		if a.space == space && a.key >= from && (to == "" || a.key < to) {
			keys = append(keys, a.key)
		}
	}
	slices.Sort(keys)
	for _, key := range keys {
		l = append(l, key, m[at{space, key}])
	}
	return l
}

// need is how many pages a change of a pair needs, for so many parts more.
func (m mind) need(space int, key string, parts int) int {
	if v, ok := m[at{space, key}]; ok {
		parts += len(v)/100 + 1
	}
	return 64 + 6*parts
}

// full asks whether a call was refused for want of room, just as it must be: then nothing has changed.
func full(t testing.TB, call string, k *kv.KV, e api.Errno, free, need int) bool {
	t.Helper()
	if free < need {
		if e != api.ErrFull || k.Free() != free {
			t.Errorf("%s: %d with %d free pages of %d; then %d", call, e, free, need, k.Free())
		}
		return true
	}
	answers(t, call, e, api.OK)
	if free-k.Free() > need {
		t.Errorf("%s: took %d pages of %d", call, free-k.Free(), need)
	}
	return false
}

func (m mind) put(t testing.TB, k *kv.KV, space int, key, value string) {
	t.Helper()
	want := m.need(space, key, len(value)/100+1)
	if n, e := k.Need(space, key, len(value)); n != want || e != api.OK {
		t.Errorf("Need: %d, %d, not %d", n, e, want)
	}
	free := k.Free()
	if !full(t, "Put", k, k.Put(space, key, value), free, want) {
		m[at{space, key}] = value
	}
}

func (m mind) del(t testing.TB, k *kv.KV, space int, key string) {
	t.Helper()
	_, want := m[at{space, key}]
	need, free := m.need(space, key, 0), k.Free()
	was, e := k.Del(space, key)
	if !want {
		answers(t, "Del of none", e, api.OK)
	} else if full(t, "Del", k, e, free, need) {
		want = false
	} else {
		delete(m, at{space, key})
	}
	if was != want {
		t.Errorf("Del(%d, %.40q): %v, not %v", space, key, was, want)
	}
}

func (m mind) get(t testing.TB, k *kv.KV, space int, key string) {
	t.Helper()
	if v, ok := m[at{space, key}]; ok {
		has(t, k, space, key, v)
	} else {
		lacks(t, k, space, key)
	}
}

// holds asks that a space has its pairs.
func (m mind) holds(t testing.TB, k *kv.KV, space int) {
	t.Helper()
	ranges(t, k, space, "", "", m.between(space, "", "")...)
}

// sort is a sort of pairs: how many pages their disk has, their keys, how many bytes their values have.
type sort struct {
	name  string
	pages int
	key   func(r *rand.Rand) string
	size  func(r *rand.Rand) int
}

var sorts = []sort{
	{"short", 400, func(r *rand.Rand) string { return fmt.Sprint(r.IntN(60)) }, func(r *rand.Rand) int { return r.IntN(30) }},
	{"long keys", 600, func(r *rand.Rand) string { return fmt.Sprintf("%s%02d", strings.Repeat("k", 34), r.IntN(100)) }, func(r *rand.Rand) int { return 100 * r.IntN(5) }},
	{"any bytes", 500, func(r *rand.Rand) string {
		return strings.Repeat("\x00", r.IntN(3)) + string([]byte{byte(r.IntN(3)), byte(253 + r.IntN(3))}[:r.IntN(3)]) + strings.Repeat("\xff", r.IntN(3))
	}, func(r *rand.Rand) int { return r.IntN(250) }},
	{"long values", 1500, func(r *rand.Rand) string { return strings.Repeat("x", r.IntN(37)) }, func(r *rand.Rand) int { return r.IntN(9000) }},
	{"tight", 110, func(r *rand.Rand) string { return fmt.Sprint(r.IntN(9)) }, func(r *rand.Rand) int { return r.IntN(900) }},
	{"edges", 900, func(r *rand.Rand) string { return string([]byte("abc"[r.IntN(3):])) }, func(r *rand.Rand) int { return 100*r.IntN(40) + r.IntN(3) - 1 }},
}

// TestAsInMind: rows of all calls answer as pairs in mind do, and behind crashes those are found that were committed.
func TestAsInMind(t *testing.T) {
	for i, s := range sorts {
		t.Run(s.name, func(t *testing.T) {
			t.Parallel()
			r := rand.New(rand.NewPCG(7, uint64(i)))
			for range 6 {
				row(t, r, s, 400)
			}
		})
	}
}

func row(t *testing.T, r *rand.Rand, s sort, steps int) {
	t.Helper()
	d, k := created(t, s.pages)
	m := mind{}
	kept := maps.Clone(m)
	spaces := []int{0, 1, 97, 255}[r.IntN(3):]
	for range steps {
		space, key := spaces[r.IntN(len(spaces))], s.key(r)
		switch r.IntN(20) {
		case 0, 1, 2, 3, 4, 5, 6:
			m.put(t, k, space, key, letters(max(0, s.size(r))))
		case 7, 8, 9, 10:
			m.del(t, k, space, key)
		case 11, 12, 13:
			m.get(t, k, space, key)
		case 14, 15:
			to := s.key(r)
			ranges(t, k, space, key, to, m.between(space, key, to)...)
		case 16, 17, 18:
			seq := k.Seq()
			commit(t, k)
			kept = maps.Clone(m)
			if k.Seq() != seq+1 {
				t.Errorf("number %d behind %d", k.Seq(), seq)
			}
		default:
			if r.IntN(2) == 0 {
				d, k = reopened(t, d)
			} else {
				answers(t, "Abort", k.Abort(), api.OK)
			}
			m = maps.Clone(kept)
		}
	}
	for _, space := range []int{0, 1, 97, 255, 96} {
		m.holds(t, k, space)
	}
	emptied(t, k, m, s.pages-2)
}

// emptied takes all pairs away, if there is room for that; then all pages but the metas are free.
func emptied(t testing.TB, k *kv.KV, m mind, all int) {
	t.Helper()
	for a := range maps.Clone(m) {
		m.del(t, k, a.space, a.key)
		commit(t, k)
	}
	if len(m) == 0 && k.Free() != all {
		t.Errorf("%d free, not %d", k.Free(), all)
	}
}
