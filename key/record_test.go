package key_test

import (
	"math/rand"
	"slices"
	"strings"
	"testing"

	"tollgate/api"
	"tollgate/key"
)

// num, text and list are items.
func num(n int64) key.Item            { return key.Item{Kind: key.Number, N: n} }
func text(s string) key.Item          { return key.Item{Kind: key.Text, Say: s} }
func list(l ...key.Item) key.Item     { return key.Item{Kind: key.List, List: l} }
func record(l ...key.Item) []key.Item { return l }

// nest is a record whose lists stand in one another so deep, with items in the innermost one.
func nest(deep int, l ...key.Item) []key.Item {
	for range deep {
		l = record(list(l...))
	}
	return l
}

// alike is Same, told otherwise.
func alike(a, b []key.Item) bool {
	if len(a) != len(b) {
		return false
	}
	for i := range a {
		if a[i].Kind != b[i].Kind || a[i].N != b[i].N || a[i].Say != b[i].Say || !alike(a[i].List, b[i].List) {
			return false
		}
	}
	return true
}

// mustEncode is Encode of a record that may be.
func mustEncode(t *testing.T, l []key.Item) string {
	t.Helper()
	s, e := key.Encode(l)
	if e != api.OK {
		t.Fatalf("Encode(%v): error %d", l, e)
	}
	return s
}

// P6.3, P6.5, example 3: a record's bytes, there and back.
func TestRecordExamples(t *testing.T) {
	long := strings.Repeat("x", 300)
	for _, x := range []struct {
		l []key.Item
		s string
	}{
		{nil, ""},
		{record(), ""},
		{record(num(0), num(-1), num(64)), "\x01\x00\x01\x01\x01\x80\x01"},
		{record(num(1), num(-2), num(63), num(-64), num(-65)), "\x01\x02\x01\x03\x01\x7e\x01\x7f\x01\x81\x01"},
		{record(num(8191), num(8192), num(-8192), num(-8193)), "\x01\xfe\x7f\x01\x80\x80\x01\x01\xff\x7f\x01\x81\x80\x01"},
		{record(num(greatest)), "\x01\xfe\xff\xff\xff\xff\xff\xff\xff\xff\x01"},
		{record(num(least)), "\x01\xff\xff\xff\xff\xff\xff\xff\xff\xff\x01"},
		{record(num(greatest >> 1)), "\x01\xfe\xff\xff\xff\xff\xff\xff\xff\x7f"},
		{record(num(least >> 1)), "\x01\xff\xff\xff\xff\xff\xff\xff\xff\x7f"},
		{record(text("")), "\x02\x00"},
		{record(text("a")), "\x02\x01a"},
		{record(text("\x00\xff")), "\x02\x02\x00\xff"},
		{record(text(long[:127]), text(long[:128]), text(long)), "\x02\x7f" + long[:127] + "\x02\x80\x01" + long[:128] + "\x02\xac\x02" + long},
		{record(list()), "\x03\x00"},
		{record(list(text("a"))), "\x03\x01\x02\x01a"},
		{record(list(num(1), list(), text("b")), num(2)), "\x03\x03\x01\x02\x03\x00\x02\x01b\x01\x04"},
		{record(list(slices.Repeat(record(num(0)), 128)...)), "\x03\x80\x01" + strings.Repeat("\x01\x00", 128)},
		{nest(16), strings.Repeat("\x03\x01", 15) + "\x03\x00"},
		{nest(16, num(-1)), strings.Repeat("\x03\x01", 16) + "\x01\x01"},
	} {
		if s, e := key.Encode(x.l); s != x.s || e != api.OK {
			t.Errorf("Encode(%v): % x, error %d", x.l, s, e)
		}
		l, e := key.Decode(x.s)
		if e != api.OK || !alike(l, x.l) || !key.Same(l, x.l) {
			t.Errorf("Decode(% x): %v, error %d", x.s, l, e)
		}
	}
}

// badItems may not be.
func badItems() []key.Item {
	return []key.Item{
		{}, {Kind: 4}, {Kind: 255}, {Kind: 0, N: 1},
		{Kind: key.Number, Say: "a"}, {Kind: key.Number, List: record(num(1))}, {Kind: key.Number, N: 1, Say: "\x00"},
		{Kind: key.Text, N: 1}, {Kind: key.Text, Say: "a", N: -1}, {Kind: key.Text, List: record(num(1))},
		{Kind: key.List, N: 1}, {Kind: key.List, Say: "a"}, {Kind: key.List, Say: "a", List: record(num(1))}, {Kind: key.List, N: least, List: record()},
	}
}

// Encode's errors: an item that may not be, a list too deep, whichever comes first in the bytes; both ahead of bytes that are too many.
func TestEncodeRefused(t *testing.T) {
	huge := text(strings.Repeat("x", api.MaxRecord))
	deep := nest(17)
	check := func(want api.Errno, l ...key.Item) {
		t.Helper()
		if s, e := key.Encode(l); s != "" || e != want {
			t.Errorf("Encode: %d bytes, error %d, want %d", len(s), e, want)
		}
	}
	check(api.ErrDeep, deep...)
	check(api.ErrDeep, nest(17, num(1))...)
	check(api.ErrDeep, nest(18)...)
	check(api.ErrDeep, nest(1000)...)
	check(api.ErrFull, huge)
	check(api.ErrDeep, append(record(huge), deep...)...)
	check(api.ErrDeep, append(deep, huge)...)
	for _, bad := range badItems() {
		check(api.ErrArg, bad)
		check(api.ErrArg, num(1), text("a"), list(), bad, num(1))
		check(api.ErrArg, nest(16, num(1), bad)...)
		check(api.ErrArg, huge, bad)
		check(api.ErrArg, bad, huge)
		check(api.ErrArg, append(record(bad), deep...)...)
		check(api.ErrDeep, append(nest(17), bad)...)
		check(api.ErrArg, nest(16, bad, list())...)
		check(api.ErrDeep, nest(16, list(), bad)...)
		// What may not be of a list itself comes with its kind, ahead of where it stands.
		check(api.ErrArg, nest(16, bad)...)
		// What stands in a list that is too deep is not come to.
		check(api.ErrDeep, nest(17, bad)...)
	}
}

// The limit of a record's bytes: MaxRecord are allowed, one more is not, however they are made up.
func TestRecordLimit(t *testing.T) {
	const head = 4 // a text's mark, and its length of three bytes
	rest := strings.Repeat("y", api.MaxRecord-head)
	for _, x := range []struct {
		full, over []key.Item
	}{
		{record(text(rest)), record(text(rest + "y"))},
		{record(text(rest[2:]), num(0)), record(text(rest[2:]), num(64))},
		{record(num(0), text(rest[2:])), record(num(64), text(rest[2:]))},
		{record(list(), text(rest[2:])), record(list(), text(rest[1:]))},
		{record(list(text(rest[2:]))), record(list(text(rest[2:])), num(0))},
		{slices.Repeat(record(num(-1)), api.MaxRecord/2), append(slices.Repeat(record(num(-1)), api.MaxRecord/2), list())},
	} {
		s := mustEncode(t, x.full)
		if len(s) != api.MaxRecord {
			t.Errorf("%d bytes", len(s))
		}
		if l, e := key.Decode(s); e != api.OK || !alike(l, x.full) {
			t.Errorf("Decode of %d bytes: error %d", len(s), e)
		}
		if s, e := key.Encode(x.over); s != "" || e != api.ErrFull {
			t.Errorf("Encode of a record that is too long: %d bytes, error %d", len(s), e)
		}
		for _, more := range []string{"\x01\x00", "\x00", "\xff"} {
			if l, e := key.Decode(s + more); len(l) != 0 || e != api.ErrFull {
				t.Errorf("Decode of %d bytes: error %d", len(s+more), e)
			}
		}
	}
	if _, e := key.Decode(strings.Repeat("\x00", api.MaxRecord+1)); e != api.ErrFull {
		t.Errorf("Decode of too many bytes that are no record's: error %d", e)
	}
	if _, e := key.Decode(strings.Repeat("\x00", api.MaxRecord)); e != api.ErrForm {
		t.Errorf("Decode of MaxRecord bytes that are no record's: error %d", e)
	}
}

// Decode's errors: what comes first in the bytes.
func TestDecodeRefused(t *testing.T) {
	tens := strings.Repeat("\xff", 9)
	in := func(deep int) string { return strings.Repeat("\x03\x01", deep) }
	for s, want := range map[string]api.Errno{
		"\x01": api.ErrForm, "\x02": api.ErrForm, "\x03": api.ErrForm, "\x00": api.ErrForm, "\x04": api.ErrForm, "\x04\x00": api.ErrForm, "\x00\x00": api.ErrForm, "\xff\x00": api.ErrForm,
		"\x01\x80\x00": api.ErrForm, "\x01\x80": api.ErrForm, "\x01\x80\x80\x00": api.ErrForm, "\x01\xff\x00": api.ErrForm, "\x02\x80\x00": api.ErrForm, "\x03\x80\x00": api.ErrForm, "\x02\x81\x00a": api.ErrForm,
		"\x02\x05a": api.ErrForm, "\x02\x01": api.ErrForm, "\x03\x01": api.ErrForm, "\x03\x02\x01\x00": api.ErrForm, "\x03\x01\x01": api.ErrForm, "\x03\x01\x04": api.ErrForm, "\x01\x00\x01": api.ErrForm, "\x01\x00\x05": api.ErrForm,
		"\x01" + tens + "\x02": api.ErrForm, "\x01" + tens + "\x03": api.ErrForm, "\x01" + tens + "\x7f": api.ErrForm, "\x01" + tens + "\x81\x00": api.ErrForm, "\x01" + tens + "\x80\x01": api.ErrForm, "\x01" + tens + "\xff\x01": api.ErrForm, "\x01" + tens + "\x00": api.ErrForm,
		"\x01" + strings.Repeat("\x80", 63) + "\x01": api.ErrForm, "\x01" + strings.Repeat("\x80", 1<<16): api.ErrForm,
		// Lengths and counts of which there is not as much.
		"\x02" + tens + "\x01a": api.ErrForm, "\x03" + tens + "\x01": api.ErrForm, "\x03" + tens + "\x01\x01\x00": api.ErrForm, "\x02\xff\xff\xff\xff\xff\xff\xff\xff\x7fa": api.ErrForm, "\x02\xff\xff\xff\xff\x0fa": api.ErrForm, "\x03\xff\xff\xff\xff\x0f\x01\x00": api.ErrForm, "\x02\x80\x80\x80\x80\x10a": api.ErrForm,
		// Lists in one another: told behind the count.
		in(16) + "\x03\x00": api.ErrDeep, in(16) + "\x03\x01": api.ErrDeep, in(17): api.ErrDeep, in(1000): api.ErrDeep, in(16) + "\x03\x05\x00": api.ErrDeep, in(16) + "\x03\x80\x01": api.ErrDeep,
		in(16) + "\x03": api.ErrForm, in(16) + "\x03\x80": api.ErrForm, in(16) + "\x03\x80\x00": api.ErrForm, in(16) + "\x03" + tens + "\x02": api.ErrForm,
		in(16): api.ErrForm, in(16) + "\x02\x05a": api.ErrForm, in(15) + "\x03\x00\x00": api.ErrForm,
		// What is wrong ahead of a list that is too deep, or behind it.
		"\x00" + in(17): api.ErrForm, in(16) + "\x04" + in(1): api.ErrForm, "\x03\x02\x01\x80\x00" + in(16): api.ErrForm, in(17) + "\x00": api.ErrDeep, "\x03\x05" + in(16): api.ErrDeep, "\x03\x05" + in(15) + "\x01\x00": api.ErrForm,
	} {
		if l, e := key.Decode(s); len(l) != 0 || e != want {
			t.Errorf("Decode(%.60q): %v, error %d, want %d", s, l, e, want)
		}
		if l, e := key.Decode("\x02\x01a\x03\x01\x01\x00" + s); len(l) != 0 || e != want {
			t.Errorf("Decode of two items and %.60q: %v, error %d, want %d", s, l, e, want)
		}
	}
}

// P6.5: of all short bytes just those are read that Encode writes; Encode writes them again.
func TestDecodeAll(t *testing.T) {
	read := 0
	texts("\x00\x01\x02\x03\x80\xff", 7, func(s string) {
		l, e := key.Decode(s)
		if e == api.OK {
			read++
			if back := mustEncode(t, l); back != s {
				t.Fatalf("Decode(% x): %v, which is % x", s, l, back)
			}
		} else if e != api.ErrForm || len(l) != 0 {
			t.Fatalf("Decode(% x): %v, error %d", s, l, e)
		}
	})
	if want := countRecords("\x00\x01\x02\x03\x80\xff", 7); read != want {
		t.Errorf("%d are read, there are %d", read, want)
	}
}

// countRecords is how many records have up to n bytes, all out of an alphabet.
func countRecords(alphabet string, n int) int {
	// A count of one byte below 128, or of two or more: all but the last one have 128 added, and the last one is not 0.
	counts := func(do func(bytes string, n uint64)) {
		texts(alphabet, n-1, func(s string) {
			value := uint64(0)
			for i := range len(s) {
				if (s[i] >= 128) != (i < len(s)-1) {
					return
				}
				value += uint64(s[i]&127) << (7 * i)
			}
			if s != "" && (len(s) == 1 || s[len(s)-1] != 0) {
				do(s, value)
			}
		})
	}
	// rows[k][b] is how many rows of k items have just b bytes.
	rows := make([][]int, n+1)
	for k := range rows {
		rows[k] = make([]int, n+1)
	}
	rows[0][0] = 1
	for b := 1; b <= n; b++ {
		items := make([]int, b+1) // by their bytes
		counts(func(s string, value uint64) {
			for size := 1 + len(s); size <= b; size++ {
				inner := size - 1 - len(s)
				if inner == 0 {
					items[size]++ // a number
				}
				if uint64(inner) == value {
					ways := 1
					for range inner {
						ways *= len(alphabet)
					}
					items[size] += ways // a text
				}
				if value <= uint64(n) {
					items[size] += rows[value][inner] // a list
				}
			}
		})
		for k := 1; k <= n; k++ {
			rows[k][b] = 0
			for size := 1; size <= b; size++ {
				rows[k][b] += items[size] * rows[k-1][b-size]
			}
		}
	}
	sum := 0
	for _, row := range rows {
		for _, ways := range row {
			sum += ways
		}
	}
	return sum
}

// anyItem is an item with few in it.
func anyItem(r *rand.Rand, deep int) key.Item {
	switch kind := r.Intn(3); {
	case kind == 0 && deep > 0:
		return list(anyItems(r, deep-1)...)
	case kind == 1:
		return text(anyText(r))
	}
	return num([]int64{0, 1, -1, 63, 64, -64, -65, least, greatest, r.Int63() >> r.Intn(63), -r.Int63() >> r.Intn(63)}[r.Intn(11)])
}

// anyItems are few items.
func anyItems(r *rand.Rand, deep int) []key.Item {
	l := make([]key.Item, r.Intn(4))
	for i := range l {
		l[i] = anyItem(r, deep)
	}
	return l
}

// P6.5: records are back what they were; two have one row of bytes just if they are the same.
func TestRecordsBack(t *testing.T) {
	r := rand.New(rand.NewSource(7))
	const many = 500
	records := make([][]key.Item, many)
	bytes := make([]string, many)
	for i := range records {
		records[i] = anyItems(r, 3)
		bytes[i] = mustEncode(t, records[i])
		if back, e := key.Decode(bytes[i]); e != api.OK || !alike(back, records[i]) {
			t.Fatalf("Decode(% x): %v, error %d", bytes[i], back, e)
		}
	}
	for i, a := range records {
		for k, b := range records {
			if same := key.Same(a, b); same != alike(a, b) || same != (bytes[i] == bytes[k]) {
				t.Fatalf("Same(%v, %v): %v", a, b, same)
			}
		}
	}
}

// P6.5: bytes of which one was changed, dropped or put in are refused, or are another record's.
func TestRecordsChanged(t *testing.T) {
	r := rand.New(rand.NewSource(8))
	for range 20000 {
		s := []byte(mustEncode(t, anyItems(r, 4)))
		at := r.Intn(len(s) + 1)
		switch {
		case at == len(s) || r.Intn(3) == 0:
			s = slices.Insert(s, at, byte(r.Intn(256)))
		case r.Intn(2) == 0:
			s = slices.Delete(s, at, at+1)
		default:
			s[at] ^= byte(1 << r.Intn(8))
		}
		l, e := key.Decode(string(s))
		if e != api.OK {
			if e != api.ErrForm || len(l) != 0 {
				t.Fatalf("Decode(% x): %v, error %d", s, l, e)
			}
			continue
		}
		if back := mustEncode(t, l); back != string(s) {
			t.Fatalf("Decode(% x): %v, which is % x", s, l, back)
		}
	}
}

// P6.3: whether records are the same, field by field, also those that may not be.
func TestSame(t *testing.T) {
	unlike := [][]key.Item{
		nil, record(num(0)), record(num(1)), record(num(-1)), record(text("")), record(text("a")), record(text("b")), record(list()), record(list(num(0))), record(list(num(0), num(0))), record(list(list())), record(num(0), num(0)), record(list(), list()),
		nest(3), nest(3, num(1)), nest(3, text("1")), nest(3, num(1), num(2)), nest(17), nest(17, num(1)), nest(1000), nest(1001), nest(1000, text("a")),
		record(key.Item{}), record(key.Item{N: 1}), record(key.Item{Kind: key.Text, N: 1}), record(key.Item{Kind: key.Number, Say: "a"}), record(key.Item{Kind: key.Number, List: record(num(0))}), record(key.Item{Kind: key.Number, List: record(num(1))}), record(key.Item{Kind: 9}),
	}
	for i, a := range unlike {
		for k, b := range unlike {
			if key.Same(a, b) != (i == k) {
				t.Errorf("Same(%.40v, %.40v) is %v", a, b, i != k)
			}
		}
	}
	if !key.Same(nil, record()) || !key.Same(record(list()), record(key.Item{Kind: key.List, List: record()})) || !key.Same(nest(5), nest(4, key.Item{Kind: key.List, List: record()})) {
		t.Errorf("nil and empty lists are not the same")
	}
	if !key.Same(record(num(1), num(2))[:1], record(num(1))) {
		t.Errorf("what stands behind the end of a list is looked at")
	}
}

// R1: lists that hold themselves come to an end, too.
func TestEndless(t *testing.T) {
	loop := func() []key.Item {
		l := record(num(1), list(), list())
		l[1].List, l[2].List = l, l
		return l
	}
	if s, e := key.Encode(loop()); s != "" || e != api.ErrDeep {
		t.Errorf("Encode of a list in itself: %q, error %d", s, e)
	}
	l := loop()
	key.Same(l, l)
	key.Same(l, loop())
	if key.Same(l, record(num(1), list(), list())) {
		t.Errorf("a list in itself is the same as one that ends")
	}
}

// R3: what is handed in stays, and what is handed out is new, each list of it.
func TestRecordLists(t *testing.T) {
	l := record(num(1), list(text("a"), list(num(2)), list()), num(9))
	s := mustEncode(t, l[:2])
	if !alike(l, record(num(1), list(text("a"), list(num(2)), list()), num(9))) {
		t.Errorf("what was handed in was changed: %v", l)
	}
	a, _ := key.Decode(s + s)
	b, _ := key.Decode(s + s)
	want := append(slices.Clone(l[:2]), l[:2]...)
	var scrawl func(l []key.Item)
	scrawl = func(l []key.Item) {
		for i := range l {
			scrawl(l[i].List)
		}
		for i := range l[:cap(l)] {
			l[:cap(l)][i] = num(77)
		}
	}
	scrawl(a[1].List)
	if !alike(a[:1], want[:1]) || !alike(a[2:], want[2:]) {
		t.Errorf("lists of one answer are shared: %v", a)
	}
	scrawl(a)
	if !alike(b, want) {
		t.Errorf("an answer is shared: %v", b)
	}
	if c, e := key.Decode(s + s); e != api.OK || !alike(c, want) {
		t.Errorf("an answer is kept: %v", c)
	}
}
