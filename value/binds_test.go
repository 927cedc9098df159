package value_test

import (
	"cmp"
	"math/rand"
	"slices"
	"strings"
	"testing"

	"tollgate/api"
	"tollgate/value"
	"tollgate/word"
)

// is is a bind of a number.
func is(name string, n int64) api.Bind {
	return api.Bind{Name: name, Value: value.Number(n)}
}

// says is a bind of a text.
func says(name, s string) api.Bind {
	return api.Bind{Name: name, Value: value.Words(s)}
}

// wrongBinds are binds of which none may be.
func wrongBinds() []api.Bind {
	l := []api.Bind{}
	for _, name := range []string{"", "1a", "a b", "-a", " a", "\u00e9", "a\x00", "\xff", strings.Repeat("a", 33)} {
		l = append(l, is(name, 1))
	}
	for _, v := range bad() {
		l = append(l, api.Bind{Name: "w", Value: v})
	}
	return l
}

// P9.3: which binds may be.
func TestCheckBinds(t *testing.T) {
	var all []api.Bind
	for v := range good() {
		all = append(all, api.Bind{Name: "n" + word.Number(int64(len(all))), Value: v})
	}
	for _, l := range [][]api.Bind{
		nil, {}, all, {is("a", 1)}, {is("b", 1), is("a", 1)}, {is("a", 1), is("A", 1)}, {is("a", 1), is("a.", 1)},
		{is(strings.Repeat("z", 32), 1), is(strings.Repeat("z", 31), 1)}, {says("x", "a"), is("y", 1), says("z", "a")},
	} {
		if e := value.CheckBinds(l); e != api.OK {
			t.Errorf("CheckBinds(%.60v): error %d", l, e)
		}
	}
	for _, b := range wrongBinds() {
		for _, l := range [][]api.Bind{{b}, {is("a", 1), b}, {b, is("a", 1)}, {b, b}, {is("w", 1), b}, {is("a", 1), b, is("a", 1)}} {
			if e := value.CheckBinds(l); e != api.ErrArg {
				t.Errorf("CheckBinds(%.60v): error %d", l, e)
			}
		}
		// Bind by bind: what stands ahead of it is told ahead of it.
		if e := value.CheckBinds([]api.Bind{is("a", 1), is("a", 1), b}); e != api.ErrTwice {
			t.Errorf("CheckBinds with a twice ahead of %.60v: error %d", b, e)
		}
	}
	for _, l := range [][]api.Bind{
		{is("a", 1), is("a", 1)}, {is("a", 1), is("a", 2)}, {is("a", 1), says("a", "")}, {is("a", 1), is("b", 1), is("c", 1), is("a", 1)},
		{is("b", 1), is("a", 1), is("a", 1)},
	} {
		if e := value.CheckBinds(l); e != api.ErrTwice {
			t.Errorf("CheckBinds(%v): error %d", l, e)
		}
	}
}

// CheckBinds of many binds ends.
func TestCheckManyBinds(t *testing.T) {
	var l []api.Bind
	for n := range int64(100000) {
		l = append(l, is("n"+word.Number(n), n))
	}
	if e := value.CheckBinds(l); e != api.OK {
		t.Errorf("CheckBinds of many: error %d", e)
	}
	if e := value.CheckBinds(append(l, l[0])); e != api.ErrTwice {
		t.Errorf("CheckBinds of many, the first one twice: error %d", e)
	}
	if got, e := value.Put(l, l); e != api.OK || !slices.Equal(got, l) {
		t.Errorf("Put of many: error %d", e)
	}
}

// spoil writes into all room of a list.
func spoil(l []api.Bind) {
	l = l[:cap(l)]
	for i := range l {
		l[i] = says("spoilt", "spoilt")
	}
}

// P9.3: by rising names, byte by byte, those of one name as they stood; any binds.
func TestSorted(t *testing.T) {
	l := []api.Bind{is("b", 1), is("a", 2), is("", 3), is("b", 4), is("B", 5), is("a-", 6), is("a", 7), is("\xff", 8), says("b", "\xff"), {}, is("a.", 9), {Name: "aa"}}
	want := []api.Bind{is("", 3), {}, is("B", 5), is("a", 2), is("a", 7), is("a-", 6), is("a.", 9), {Name: "aa"}, is("b", 1), is("b", 4), says("b", "\xff"), is("\xff", 8)}
	if got := value.Sorted(l); !slices.Equal(got, want) {
		t.Errorf("Sorted: %v", got)
	}
	for _, l := range [][]api.Bind{nil, {}} {
		if got := value.Sorted(l); len(got) != 0 {
			t.Errorf("Sorted of none: %v", got)
		}
	}
}

// P9.3: rows at random, put in order so that none of one name goes past another one.
func TestSortedRows(t *testing.T) {
	r := rand.New(rand.NewSource(3))
	for range 300 {
		var l []api.Bind
		for n := range int64(r.Intn(80)) {
			l = append(l, is(string(rune('a'+r.Intn(9))), n))
		}
		given := slices.Clone(l)
		got := value.Sorted(l)
		if !slices.Equal(l, given) {
			t.Fatalf("Sorted changed what it was given: %v", l)
		}
		// Each bind has a number of its own, so that this order has just one row.
		slices.SortFunc(given, func(a, b api.Bind) int {
			return cmp.Or(cmp.Compare(a.Name, b.Name), cmp.Compare(a.Value.Int, b.Value.Int))
		})
		if !slices.Equal(got, given) {
			t.Fatalf("Sorted(%v): %v", l, got)
		}
	}
}

// P9.3: the first one of a name; any binds, any name.
func TestFind(t *testing.T) {
	l := []api.Bind{is("a", 1), says("b", "x"), is("a", 2), {Name: "c"}, is("", 4), {Name: "\xff", Value: api.Value{Kind: 9, Text: "\xff"}}}
	for name, want := range map[string]api.Value{
		"a": value.Number(1), "b": value.Words("x"), "c": {}, "": value.Number(4), "\xff": {Kind: 9, Text: "\xff"},
	} {
		if v, ok := value.Find(l, name); v != want || !ok {
			t.Errorf("Find(%q): %v, %v", name, v, ok)
		}
	}
	for _, name := range []string{"A", "d", "aa", "\x00", strings.Repeat("a", 1000)} {
		if v, ok := value.Find(l, name); v != (api.Value{}) || ok {
			t.Errorf("Find(%.20q): %v, %v", name, v, ok)
		}
	}
	for _, l := range [][]api.Bind{nil, {}, l[:1]} {
		if v, ok := value.Find(l, "b"); v != (api.Value{}) || ok {
			t.Errorf("Find(%v, b): %v, %v", l, v, ok)
		}
	}
}

// Example 3, and others of the kind.
func TestPutExamples(t *testing.T) {
	vars := []api.Bind{is("x", 1), says("y", "a")}
	for _, c := range []struct{ vars, patch, want []api.Bind }{
		{vars, []api.Bind{says("y", "b")}, []api.Bind{is("x", 1), says("y", "b")}},
		{vars, []api.Bind{says("y", "b"), is("x", -1)}, []api.Bind{is("x", -1), says("y", "b")}},
		{vars, nil, vars}, {vars, vars, vars}, {nil, nil, nil}, {[]api.Bind{}, []api.Bind{}, nil},
		{[]api.Bind{says("y", "a"), is("x", 1)}, []api.Bind{is("x", 2)}, []api.Bind{says("y", "a"), is("x", 2)}},
		{[]api.Bind{{Name: "b", Value: value.Truth(true)}}, []api.Bind{{Name: "b", Value: value.Truth(false)}}, []api.Bind{{Name: "b", Value: value.Truth(false)}}},
	} {
		if got, e := value.Put(c.vars, c.patch); e != api.OK || !slices.Equal(got, c.want) {
			t.Errorf("Put(%v, %v): %v, error %d", c.vars, c.patch, got, e)
		}
	}
}

// Put's errors, in their order: what CheckBinds says of vars, then of patch; then, bind by bind, ErrVar, ErrType.
func TestPutRefused(t *testing.T) {
	vars := []api.Bind{is("x", 1), says("y", "a")}
	twice := []api.Bind{is("x", 2), is("x", 3)}
	refuse := func(vars, patch []api.Bind, want api.Errno) {
		if got, e := value.Put(vars, patch); len(got) != 0 || e != want {
			t.Errorf("Put(%.60v, %.60v): %v, error %d", vars, patch, got, e)
		}
	}
	refuse(vars, []api.Bind{is("z", 1)}, api.ErrVar)
	refuse(nil, []api.Bind{is("x", 1)}, api.ErrVar)
	refuse(vars, []api.Bind{is("X", 1)}, api.ErrVar)
	refuse(vars, []api.Bind{says("x", "a")}, api.ErrType)
	refuse(vars, []api.Bind{{Name: "x", Value: value.Truth(true)}}, api.ErrType)
	refuse(vars, []api.Bind{is("x", 2), is("y", 2)}, api.ErrType)
	refuse(vars, []api.Bind{says("x", "a"), is("z", 1)}, api.ErrType)
	refuse(vars, []api.Bind{is("z", 1), says("x", "a")}, api.ErrVar)
	refuse(vars, []api.Bind{is("x", 2), says("z", "a"), is("y", 1)}, api.ErrVar)
	refuse(vars, twice, api.ErrTwice)
	refuse(twice, vars, api.ErrTwice)
	refuse(vars, []api.Bind{is("z", 1), is("z", 1)}, api.ErrTwice)
	refuse(vars, []api.Bind{says("x", "a"), is("y", 1), is("y", 1)}, api.ErrTwice)
	for _, b := range wrongBinds() {
		wrong := []api.Bind{is("z", 1), b}
		refuse(vars, wrong, api.ErrArg)
		refuse([]api.Bind{b}, nil, api.ErrArg)
		refuse(wrong, twice, api.ErrArg)
		refuse(twice, wrong, api.ErrTwice)
		refuse(vars, []api.Bind{b, is("x", 1), is("x", 1)}, api.ErrArg)
		refuse(vars, []api.Bind{is("x", 1), is("x", 1), b}, api.ErrTwice)
	}
}

// row are binds at random that may be, of some of the names a to h, in any order; of which kind each is hangs on its name.
func row(r *rand.Rand, names []int) []api.Bind {
	var l []api.Bind
	for _, k := range names {
		v := value.Number(r.Int63())
		switch k % 3 {
		case 1:
			v = value.Truth(r.Intn(2) == 1)
		case 2:
			v = value.Words(word.Number(r.Int63()))
		}
		l = append(l, api.Bind{Name: string(rune('a' + k)), Value: v})
	}
	return l
}

// part are some of those, in any order.
func part(r *rand.Rand, names []int) []int {
	l := slices.Clone(names)
	r.Shuffle(len(l), func(i, k int) { l[i], l[k] = l[k], l[i] })
	return l[:r.Intn(len(l)+1)]
}

// P9.3, P9.6: names stay where they were; what is put is found, all else stays; twice is once; two patches are the one patched with the other.
func TestPutRows(t *testing.T) {
	r := rand.New(rand.NewSource(6))
	put := func(vars, patch []api.Bind) []api.Bind {
		before, asked := slices.Clone(vars), slices.Clone(patch)
		got, e := value.Put(vars, patch)
		if e != api.OK {
			t.Fatalf("Put(%v, %v): error %d", vars, patch, e)
		}
		if !slices.Equal(vars, before) || !slices.Equal(patch, asked) {
			t.Fatalf("Put changed what it was given: %v, %v", vars, patch)
		}
		return got
	}
	for range 3000 {
		known := part(r, []int{0, 1, 2, 3, 4, 5, 6, 7})
		vars := row(r, known)
		said := part(r, known)
		patch := row(r, said)
		got := put(vars, patch)
		if len(got) != len(vars) {
			t.Fatalf("Put(%v, %v): %v", vars, patch, got)
		}
		for i, b := range vars {
			want, ok := value.Find(patch, b.Name)
			if !ok {
				want = b.Value
			}
			if got[i] != (api.Bind{Name: b.Name, Value: want}) {
				t.Fatalf("Put(%v, %v): %v", vars, patch, got)
			}
		}
		if again := put(got, patch); !slices.Equal(again, got) {
			t.Fatalf("Put twice of %v: %v, then %v", patch, got, again)
		}
		second := row(r, part(r, said))
		if one, other := put(got, second), put(vars, put(patch, second)); !slices.Equal(one, other) {
			t.Fatalf("%v, then %v: %v; the one patched with the other: %v", patch, second, one, other)
		}
	}
}

// Lists that are handed out are new memory, and what is behind the end of those that are handed in is left alone.
func TestNewMemory(t *testing.T) {
	room := []api.Bind{is("b", 1), is("a", 2), is("d", 3), is("c", 4)}
	kept := slices.Clone(room)
	vars, patch := room[:2], []api.Bind{is("a", 5), is("b", 6)}[:1]
	put := func() []api.Bind {
		l, e := value.Put(vars, patch)
		if e != api.OK {
			t.Fatalf("Put: error %d", e)
		}
		return l
	}
	one, two := put(), put()
	spoil(one)
	if want := []api.Bind{is("b", 1), is("a", 5)}; !slices.Equal(two, want) || !slices.Equal(put(), want) {
		t.Errorf("Put, when another answer was spoilt: %v", two)
	}
	one, two = value.Sorted(vars), value.Sorted(vars)
	spoil(one)
	if want := []api.Bind{is("a", 2), is("b", 1)}; !slices.Equal(two, want) || !slices.Equal(value.Sorted(vars), want) {
		t.Errorf("Sorted, when another answer was spoilt: %v", two)
	}
	spoil(value.Sorted(room[:0]))
	l, _ := value.Put(room[:0], nil)
	spoil(l)
	if e := value.CheckBinds(vars); e != api.OK {
		t.Errorf("CheckBinds: error %d", e)
	}
	if !slices.Equal(room, kept) || patch[:2][1] != is("b", 6) {
		t.Errorf("what was handed in is %v, %v", room, patch[:2])
	}
}
