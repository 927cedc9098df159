package key_test

import (
	"cmp"
	"math/rand"
	"reflect"
	"slices"
	"strings"
	"testing"

	"tollgate/api"
	"tollgate/key"
)

const (
	least    = -1 << 63
	greatest = 1<<63 - 1
)

// mustPack is Pack of a key that may be.
func mustPack(t *testing.T, l ...key.Part) string {
	t.Helper()
	s, e := key.Pack(l...)
	if e != api.OK {
		t.Fatalf("Pack(%v): error %d", l, e)
	}
	return s
}

// sameKey says whether two keys are the same, field by field.
func sameKey(a, b []key.Part) bool { return slices.Equal(a, b) }

// P6.1: Num and Str.
func TestParts(t *testing.T) {
	for _, n := range []int64{0, 1, -1, least, greatest} {
		if p := key.Num(n); p != (key.Part{N: n}) {
			t.Errorf("Num(%d): %v", n, p)
		}
	}
	for _, s := range []string{"", "a", "\x00", "\xff\xfe"} {
		if p := key.Str(s); p != (key.Part{Text: true, Say: s}) {
			t.Errorf("Str(%q): %v", s, p)
		}
	}
}

// keyBytes are keys with their bytes.
func keyBytes() []struct {
	l []key.Part
	s string
} {
	return []struct {
		l []key.Part
		s string
	}{
		{nil, ""},
		{[]key.Part{}, ""},
		{[]key.Part{key.Num(1)}, "\x01\x80\x00\x00\x00\x00\x00\x00\x01"},
		{[]key.Part{key.Num(0)}, "\x01\x80\x00\x00\x00\x00\x00\x00\x00"},
		{[]key.Part{key.Num(-1)}, "\x01\x7f\xff\xff\xff\xff\xff\xff\xff"},
		{[]key.Part{key.Num(least)}, "\x01\x00\x00\x00\x00\x00\x00\x00\x00"},
		{[]key.Part{key.Num(greatest)}, "\x01\xff\xff\xff\xff\xff\xff\xff\xff"},
		{[]key.Part{key.Num(0x0123456789abcdef)}, "\x01\x81\x23\x45\x67\x89\xab\xcd\xef"},
		{[]key.Part{key.Str("a")}, "\x02a\x00\x00"},
		{[]key.Part{key.Str("")}, "\x02\x00\x00"},
		{[]key.Part{key.Str("\x00")}, "\x02\x00\xff\x00\x00"},
		{[]key.Part{key.Str("\x00\x00")}, "\x02\x00\xff\x00\xff\x00\x00"},
		{[]key.Part{key.Str("\x00\xff")}, "\x02\x00\xff\xff\x00\x00"},
		{[]key.Part{key.Str("a\x00b\xff\x01\x02")}, "\x02a\x00\xffb\xff\x01\x02\x00\x00"},
		{[]key.Part{key.Str(""), key.Str("")}, "\x02\x00\x00\x02\x00\x00"},
		{[]key.Part{key.Num(2), key.Str("b"), key.Num(-2)}, "\x01\x80\x00\x00\x00\x00\x00\x00\x02\x02b\x00\x00\x01\x7f\xff\xff\xff\xff\xff\xff\xfe"},
	}
}

// P6.1, P6.5, example 1: a key's bytes, there and back.
func TestPackExamples(t *testing.T) {
	for _, x := range keyBytes() {
		if s := mustPack(t, x.l...); s != x.s {
			t.Errorf("Pack(%v): % x", x.l, s)
		}
		if l, e := key.Unpack(x.s); e != api.OK || !sameKey(l, x.l) {
			t.Errorf("Unpack(% x): %v, error %d", x.s, l, e)
		}
	}
}

// Pack's errors, in their order: too many parts ahead of a part that may not be.
func TestPackRefused(t *testing.T) {
	full := slices.Repeat([]key.Part{key.Num(7), key.Str("x")}, 8)
	s := mustPack(t, full...)
	if l, e := key.Unpack(s); e != api.OK || !sameKey(l, full) {
		t.Errorf("Unpack of 16 parts: %v, error %d", l, e)
	}
	mixed := []key.Part{{N: 1, Say: "a"}, {Text: true, N: 1}, {Text: true, N: -1, Say: "a"}, {Say: "\x00"}}
	for _, p := range mixed {
		if s, e := key.Pack(p); s != "" || e != api.ErrArg {
			t.Errorf("Pack(%v): %q, error %d", p, s, e)
		}
		if s, e := key.Pack(key.Num(1), key.Str("a"), p, key.Num(1)); s != "" || e != api.ErrArg {
			t.Errorf("Pack(.., %v, ..): %q, error %d", p, s, e)
		}
		if s, e := key.Pack(append(full[:15:15], p)...); s != "" || e != api.ErrArg {
			t.Errorf("Pack(16 parts, the last one %v): %q, error %d", p, s, e)
		}
		if s, e := key.Pack(append([]key.Part{p}, full...)...); s != "" || e != api.ErrFull {
			t.Errorf("Pack(%v and 16 others): %q, error %d", p, s, e)
		}
	}
	for _, p := range []key.Part{key.Num(0), key.Str("")} {
		if s, e := key.Pack(append(full[:16:16], p)...); s != "" || e != api.ErrFull {
			t.Errorf("Pack(16 parts, %v): %q, error %d", p, s, e)
		}
	}
}

// P6.1: bytes that are no key's.
func TestUnpackRefused(t *testing.T) {
	one := mustPack(t, key.Num(5))
	for _, s := range []string{
		"\x01", "\x01\x00", one[:8], one + "\x00", one + "\x01", one + one[:8], one + "\x03", "\x00" + one,
		"\x00", "\x03", "\x04\x00\x00", "\xff", "a",
		"\x02", "\x02a", "\x02\x00", "\x02a\x00", "\x02\x00\x01", "\x02\x00\x01\x00\x00", "\x02a\x00b\x00\x00", "\x02\x00\xfe\x00\x00", "\x02\x00\xff", "\x02\x00\xff\x00",
		"\x02\x00\x00\x00", "\x02\x00\x00\x00\x00", "\x02\x00\x00\xff", "\x02\x00\x00\xff\x00\x00",
		strings.Repeat("\x02\x00\x00", 17), strings.Repeat(one, 17), strings.Repeat(one, 16) + "\x02\x00\x00", strings.Repeat(one, 16) + "\x00",
	} {
		if l, e := key.Unpack(s); len(l) != 0 || e != api.ErrForm {
			t.Errorf("Unpack(% x): %v, error %d", s, l, e)
		}
	}
}

// texts calls do for all texts of up to n bytes out of an alphabet.
func texts(alphabet string, n int, do func(string)) {
	var grow func(s string)
	grow = func(s string) {
		do(s)
		if len(s) == n {
			return
		}
		for i := range len(alphabet) {
			grow(s + alphabet[i:i+1])
		}
	}
	grow("")
}

// P6.5: of all short bytes just those are read that Pack writes; Pack writes them again.
func TestUnpackAll(t *testing.T) {
	read := 0
	texts("\x00\x01\x02\x61\xff", 8, func(s string) {
		l, e := key.Unpack(s)
		if e == api.OK {
			read++
			if back := mustPack(t, l...); back != s {
				t.Fatalf("Unpack(% x): %v, which is % x", s, l, back)
			}
		} else if e != api.ErrForm || len(l) != 0 {
			t.Fatalf("Unpack(% x): %v, error %d", s, l, e)
		}
	})
	wrote := map[string]bool{}
	var grow func(l []key.Part)
	grow = func(l []key.Part) {
		s := mustPack(t, l...)
		if len(s) > 8 {
			return
		}
		wrote[s] = true
		if back, e := key.Unpack(s); e != api.OK || !sameKey(back, l) {
			t.Fatalf("Unpack(% x): %v, error %d", s, back, e)
		}
		texts("\x00\x01\x02\x61\xff", 5, func(say string) {
			grow(append(l[:len(l):len(l)], key.Str(say)))
		})
	}
	grow(nil)
	if read != len(wrote) {
		t.Errorf("%d bytes are read, %d are written", read, len(wrote))
	}
}

// P6.1, example 2: how keys stand.
func TestCmpExamples(t *testing.T) {
	rising := [][]key.Part{
		{}, {key.Num(least)}, {key.Num(-256)}, {key.Num(-255)}, {key.Num(-1)}, {key.Num(-1), key.Num(least)}, {key.Num(-1), key.Str("")},
		{key.Num(0)}, {key.Num(0), key.Num(0)}, {key.Num(0), key.Num(1)}, {key.Num(0), key.Str("")}, {key.Num(1)}, {key.Num(255)}, {key.Num(256)}, {key.Num(greatest)}, {key.Num(greatest), key.Str("z")},
		{key.Str("")}, {key.Str(""), key.Num(1)}, {key.Str(""), key.Str("")}, {key.Str(""), key.Str("\xff")}, {key.Str("\x00")}, {key.Str("\x00"), key.Num(9)}, {key.Str("\x00\x00")}, {key.Str("\x00\xff")}, {key.Str("\x01")},
		{key.Str("a")}, {key.Str("a"), key.Num(1)}, {key.Str("a"), key.Str("a")}, {key.Str("a\x00")}, {key.Str("a\x01")}, {key.Str("aa")}, {key.Str("b")}, {key.Str("\x80")}, {key.Str("\xff")}, {key.Str("\xff"), key.Num(1)}, {key.Str("\xff\x00")}, {key.Str("\xff\xff")},
	}
	for i, a := range rising {
		for k, b := range rising {
			if c := key.Cmp(a, b); c != cmp.Compare(i, k) {
				t.Errorf("Cmp(%v, %v): %d", a, b, c)
			}
			if c := cmp.Compare(mustPack(t, a...), mustPack(t, b...)); c != cmp.Compare(i, k) {
				t.Errorf("the bytes of %v and %v stand as %d", a, b, c)
			}
		}
	}
	if key.Cmp(nil, []key.Part{}) != 0 || key.Cmp(nil, nil) != 0 || key.Cmp(nil, rising[1]) != -1 || key.Cmp(rising[1], nil) != 1 {
		t.Errorf("a key without parts stands elsewhere")
	}
}

// P6.1: parts that may not be are held against each other by Text, then N or Say alone; more than 16 of them, too.
func TestCmpForeign(t *testing.T) {
	for _, x := range []struct {
		a, b key.Part
		want int
	}{
		{key.Part{N: 1, Say: "b"}, key.Part{N: 1, Say: "a"}, 0},
		{key.Part{N: 1, Say: "b"}, key.Part{N: 2, Say: "a"}, -1},
		{key.Part{Text: true, N: 2, Say: "a"}, key.Part{Text: true, N: 1, Say: "a"}, 0},
		{key.Part{Text: true, N: 2, Say: "a"}, key.Part{Text: true, N: 1, Say: "b"}, -1},
		{key.Part{N: 9, Say: "z"}, key.Part{Text: true, N: 1, Say: "a"}, -1},
		{key.Part{Text: true, N: 1}, key.Part{N: 2}, 1},
	} {
		if c := key.Cmp([]key.Part{x.a}, []key.Part{x.b}); c != x.want {
			t.Errorf("Cmp(%v, %v): %d", x.a, x.b, c)
		}
		if c := key.Cmp([]key.Part{x.b}, []key.Part{x.a}); c != -x.want {
			t.Errorf("Cmp(%v, %v): %d", x.b, x.a, c)
		}
	}
	long := slices.Repeat([]key.Part{key.Num(1)}, 40)
	more := append(slices.Clone(long), key.Num(1))
	if key.Cmp(long, more) != -1 || key.Cmp(more, long) != 1 || key.Cmp(long, long) != 0 {
		t.Errorf("long keys stand elsewhere")
	}
}

// anyText is a short text, often of bytes that mean something.
func anyText(r *rand.Rand) string {
	b := make([]byte, r.Intn(4))
	for i := range b {
		b[i] = "\x00\x00\x01\x02ab\xfe\xff\xff"[r.Intn(9)]
	}
	return string(b)
}

// anyKey is a short key.
func anyKey(r *rand.Rand) []key.Part {
	l := make([]key.Part, r.Intn(4))
	for i := range l {
		if r.Intn(2) == 0 {
			l[i] = key.Str(anyText(r))
		} else {
			l[i] = key.Num([]int64{0, 1, -1, 255, 256, -256, least, greatest, r.Int63() >> r.Intn(63), -r.Int63() >> r.Intn(63)}[r.Intn(10)])
		}
	}
	return l
}

// P6.4, P6.5: bytes stand as keys do, and are back what they were; what begins with a key's bytes begins with the key, and lies from its bytes on, below After.
func TestOrder(t *testing.T) {
	r := rand.New(rand.NewSource(6))
	const many = 700
	keys := make([][]key.Part, many)
	bytes := make([]string, many)
	for i := range keys {
		keys[i] = anyKey(r)
		bytes[i] = mustPack(t, keys[i]...)
		if back, e := key.Unpack(bytes[i]); e != api.OK || !sameKey(back, keys[i]) {
			t.Fatalf("Unpack(% x): %v, error %d", bytes[i], back, e)
		}
	}
	for i, a := range keys {
		for k, b := range keys {
			c := key.Cmp(a, b)
			if c != strings.Compare(bytes[i], bytes[k]) || (c == 0) != sameKey(a, b) {
				t.Fatalf("Cmp(%v, %v): %d", a, b, c)
			}
			begins := len(b) >= len(a) && sameKey(b[:len(a)], a)
			if strings.HasPrefix(bytes[k], bytes[i]) != begins {
				t.Fatalf("the bytes of %v, %v do not begin as they do", a, b)
			}
			after := key.After(bytes[i])
			if (bytes[k] >= bytes[i] && (bytes[k] < after || after == "")) != begins {
				t.Fatalf("%v is not from %v on, and below After of it", b, a)
			}
		}
	}
}

// P6.2, example 2.
func TestAfterExamples(t *testing.T) {
	for s, want := range map[string]string{
		"": "", "\xff": "", "\xff\xff": "", "a": "b", "a\xff": "b", "a\xff\xff\xff": "b", "\x00": "\x01", "\xfe": "\xff", "\xfe\xff": "\xff",
		"a\x00": "a\x01", "\xff\x00": "\xff\x01", "\xffa\xff": "\xffb", "a\xffb": "a\xffc", "\x7f": "\x80", "\u00e9": "\xc3\xaa", "ab\xfe\xff": "ab\xff",
		strings.Repeat("\xff", 1000): "", strings.Repeat("a", 1000): strings.Repeat("a", 999) + "b",
	} {
		if got := key.After(s); got != want {
			t.Errorf("After(%q): %q", s, got)
		}
	}
}

// P6.2: After are the least bytes behind all that begin so.
func TestAfterAll(t *testing.T) {
	var all []string
	texts("\x00\x01\xfe\xff", 4, func(s string) { all = append(all, s) })
	for _, s := range all {
		after := key.After(s)
		if (after == "") != (s == strings.Repeat("\xff", len(s))) {
			t.Fatalf("After(%q): %q", s, after)
		}
		for _, x := range all {
			if strings.HasPrefix(x, s) && after != "" && x >= after {
				t.Fatalf("After(%q): %q, but %q begins with it", s, after, x)
			}
			// Bytes between are such as begin with s, or stand ahead of these.
			if !strings.HasPrefix(x, s) && x > s && (after == "" || x < after) {
				t.Fatalf("After(%q): %q, but %q is less", s, after, x)
			}
		}
	}
}

// R3: what is handed in stays, and what is handed out is new.
func TestKeyLists(t *testing.T) {
	l := []key.Part{key.Num(1), key.Str("a\x00"), key.Num(9), key.Num(9)}
	s := mustPack(t, l[:2]...)
	key.Cmp(l[:1], l[:2])
	if !sameKey(l, []key.Part{key.Num(1), key.Str("a\x00"), key.Num(9), key.Num(9)}) {
		t.Errorf("what was handed in was changed: %v", l)
	}
	a, _ := key.Unpack(s)
	b, _ := key.Unpack(s)
	for i := range a[:cap(a)] {
		a[:cap(a)][i] = key.Num(77)
	}
	if !sameKey(b, l[:2]) {
		t.Errorf("an answer is shared: %v", b)
	}
	if c, _ := key.Unpack(s); !reflect.DeepEqual(c, b) {
		t.Errorf("an answer is kept: %v", c)
	}
}
