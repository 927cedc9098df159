package page_test

import (
	"bytes"
	"encoding/binary"
	"hash/fnv"
	"math/rand/v2"
	"testing"

	"tollgate/api"
	"tollgate/page"
)

// reckoned is the sum of bytes, by the library's own means.
func reckoned(b []byte) uint64 {
	h := fnv.New64a()
	h.Write(b)
	return h.Sum64()
}

// summed is the page with the number n, whose bytes behind the sum are these; its sum is right, whatever they say.
func summed(n int, rest []byte) []byte {
	number := binary.BigEndian.AppendUint64(nil, uint64(n))
	sum := reckoned(append(number, rest...))
	return append(binary.BigEndian.AppendUint64(nil, sum), rest...)
}

// spelled is the page with the number n and the payload b, part by part as the document tells it.
func spelled(n int, b []byte) []byte {
	rest := binary.BigEndian.AppendUint16(nil, uint16(len(b)))
	rest = append(rest, b...)
	rest = append(rest, make([]byte, api.PageSize-8-len(rest))...)
	return summed(n, rest)
}

// some are n bytes, none of them 0, unlike for each seed.
func some(n, seed int) []byte {
	r := rand.New(rand.NewPCG(uint64(seed), 3))
	b := make([]byte, n)
	for i := range b {
		b[i] = byte(1 + r.IntN(255))
	}
	return b
}

// encoded is the page with the number n and the payload b.
func encoded(t testing.TB, n int, b []byte) []byte {
	t.Helper()
	p, e := page.Encode(n, b)
	if e != api.OK || len(p) != api.PageSize {
		t.Fatalf("Encode(%d, %d bytes): %d bytes, %v", n, len(b), len(p), e)
	}
	return p
}

// decodes asks that a page has this payload.
func decodes(t testing.TB, n int, p, want []byte) {
	t.Helper()
	if b, e := page.Decode(n, p); e != api.OK || !bytes.Equal(b, want) {
		t.Errorf("Decode(%d, ..): %q, %v, not %q", n, b, e, want)
	}
}

// refused asks that a page is refused.
func refused(t testing.TB, n int, p []byte, want api.Errno) {
	t.Helper()
	if b, e := page.Decode(n, p); e != want || len(b) != 0 {
		t.Errorf("Decode(%d, %d bytes): %q, %v, not %v", n, len(p), b, e, want)
	}
}

// Numbers that pages may have, and such as none may.
var (
	numbers = []int{0, 1, 2, 7, 255, 256, 257, 4096, 16382, page.MaxPage}
	wrong   = []int{-1, -2, -256, -1 << 63, -1<<63 + 7, page.MaxPage + 1, 1 << 15, 1 << 32, 1<<32 + 7, 1 << 56, 1<<63 - 1}
)

// The limits.
func TestLimits(t *testing.T) {
	if page.Room != 502 || page.MaxPage != 16383 {
		t.Errorf("Room %d, MaxPage %d", page.Room, page.MaxPage)
	}
	if 4*(page.MaxPage+1) != api.MaxSectors {
		t.Errorf("MaxPage %d is not the last page of the largest disk", page.MaxPage)
	}
}

// Example 1.
func TestExampleSum(t *testing.T) {
	if s := page.Sum(nil); s != 14695981039346656037 {
		t.Errorf("Sum of none: %d", s)
	}
	if s := page.Sum([]byte{0x61}); s != 12638187200555641996 {
		t.Errorf("Sum of the byte 61: %d", s)
	}
}

// Example 2.
func TestExampleEncode(t *testing.T) {
	p := encoded(t, 0, nil)
	if !bytes.Equal(p[8:], make([]byte, 504)) {
		t.Errorf("bytes 8 to 511: %q", p[8:])
	}
	decodes(t, 0, p, nil)
	refused(t, 1, p, api.ErrSum)
	encoded(t, 7, make([]byte, 502))
	for _, x := range []struct{ n, size int }{{7, 503}, {16384, 0}, {-1, 0}, {-1, 502}} {
		if p, e := page.Encode(x.n, make([]byte, x.size)); e != api.ErrArg || len(p) != 0 {
			t.Errorf("Encode(%d, %d bytes): %q, %v", x.n, x.size, p, e)
		}
	}
}

// Example 3.
func TestExampleDecode(t *testing.T) {
	p := encoded(t, 0, nil)
	refused(t, 0, p[:511], api.ErrArg)
	for i := range p {
		p[i] = ^p[i]
		refused(t, 0, p, api.ErrSum)
		p[i] = ^p[i]
	}
	decodes(t, 0, p, nil)
}

// P3.1: the sum as the library knows it: of single bytes, of all lengths up to two pages, and of many bytes.
func TestSum(t *testing.T) {
	all := some(1<<20, 1)
	lists := [][]byte{nil, {}, all}
	for c := range 256 {
		lists = append(lists, []byte{byte(c)}, []byte{0, byte(c)}, []byte{byte(c), 0})
	}
	for n := range 2*api.PageSize + 1 {
		lists = append(lists, all[:n], make([]byte, n))
	}
	for _, b := range lists {
		if s := page.Sum(b); s != reckoned(b) {
			t.Errorf("Sum(%.20q .., %d bytes): %d, not %d", b, len(b), s, reckoned(b))
		}
	}
}

// P3.1: the sum, step by step as the document tells it.
func TestSumSteps(t *testing.T) {
	b := some(300, 2)
	want := uint64(14695981039346656037)
	for i, c := range b {
		want = (want ^ uint64(c)) * 1099511628211
		if s := page.Sum(b[:i+1]); s != want {
			t.Fatalf("Sum of %d bytes: %d, not %d", i+1, s, want)
		}
	}
}

// P3.1, P3.2: pages of every length of payload are as the document tells them, and are undone.
func TestEveryLength(t *testing.T) {
	for size := range page.Room + 1 {
		for k, b := range [][]byte{some(size, size), make([]byte, size), bytes.Repeat([]byte{0xFF}, size)} {
			n := (size*31 + k*5000) % (page.MaxPage + 1)
			p := encoded(t, n, b)
			if !bytes.Equal(p, spelled(n, b)) {
				t.Fatalf("Encode(%d, %q): %q, not %q", n, b, p, spelled(n, b))
			}
			decodes(t, n, p, b)
		}
	}
}

// P3.1, P3.2: pages of every number are as the document tells them, and are undone.
func TestEveryNumber(t *testing.T) {
	b := some(40, 4)
	for n := range page.MaxPage + 1 {
		p := encoded(t, n, b)
		if !bytes.Equal(p, spelled(n, b)) {
			t.Fatalf("Encode(%d, ..): %q", n, p)
		}
		decodes(t, n, p, b)
	}
}

// The errors of Encode, also where both arguments are wrong.
func TestEncodeRefuses(t *testing.T) {
	sizes := []int{page.Room + 1, page.Room + 2, api.PageSize, 1 << 16, 1<<16 + 3}
	check := func(n, size int) {
		t.Helper()
		if p, e := page.Encode(n, make([]byte, size)); e != api.ErrArg || len(p) != 0 {
			t.Errorf("Encode(%d, %d bytes): %q, %v", n, size, p, e)
		}
	}
	for _, size := range sizes {
		for _, n := range append(numbers, wrong...) {
			check(n, size)
		}
	}
	for _, n := range wrong {
		check(n, 0)
		check(n, page.Room)
	}
}

// The errors of Decode: a number or a length that is none is told ahead of a sum that is wrong.
func TestDecodeRefuses(t *testing.T) {
	good := encoded(t, 7, some(page.Room, 5))
	for _, n := range wrong {
		refused(t, n, good, api.ErrArg)
		refused(t, n, summed(n, good[8:]), api.ErrArg)
		refused(t, n, nil, api.ErrArg)
	}
	long := append(bytes.Clone(good), make([]byte, 1024)...)
	for _, size := range []int{0, 1, 8, 9, 10, 128, 510, 511, 513, 514, 1024, 1536} {
		refused(t, 7, long[:size], api.ErrArg)
		refused(t, 8, long[:size], api.ErrArg)
	}
	refused(t, 7, nil, api.ErrArg)
	refused(t, 8, good, api.ErrSum)
	refused(t, 7, make([]byte, api.PageSize), api.ErrSum)
	decodes(t, 7, long[:512], good[10:])
}

// P3.1: with the right sum a page is refused, whose payload would be longer than there is room.
func TestTooLong(t *testing.T) {
	for _, tail := range [][]byte{make([]byte, page.Room), some(page.Room, 6)} {
		for size := page.Room; size < 1<<16; size++ {
			p := summed(3, append([]byte{byte(size >> 8), byte(size)}, tail...))
			if size == page.Room {
				decodes(t, 3, p, tail)
				continue
			}
			refused(t, 3, p, api.ErrSum)
		}
	}
}

// P3.1: with the right sum a page is refused, behind whose payload a byte is not 0, wherever it stands.
func TestByteBehind(t *testing.T) {
	for _, size := range []int{0, 1, 250, 255, 256, 257, 500, 501} {
		rest := spelled(9, some(size, 7))[8:]
		for i := size; i < page.Room; i++ {
			for _, c := range []byte{1, 0x80, 0xFF} {
				rest[2+i] = c
				refused(t, 9, summed(9, rest), api.ErrSum)
			}
			rest[2+i] = 0
		}
		decodes(t, 9, summed(9, rest), rest[2:2+size])
	}
}

// P3.2: 0s at a payload's end are its own; a page that says that it has fewer or more of them is another one, and made again as it is.
func TestZerosAtEnd(t *testing.T) {
	rest := spelled(5, some(20, 8))[8:]
	for size := range page.Room + 1 {
		rest[0], rest[1] = byte(size>>8), byte(size)
		p := summed(5, rest)
		if size < 20 {
			refused(t, 5, p, api.ErrSum)
			continue
		}
		decodes(t, 5, p, rest[2:2+size])
		if again := encoded(t, 5, rest[2:2+size]); !bytes.Equal(again, p) {
			t.Errorf("of %d bytes: %q, not %q", size, again, p)
		}
	}
}

// P3.2: of whatever bytes Decode takes, Encode makes the same page again; of all others it says ErrSum.
func TestMadeAgain(t *testing.T) {
	r := rand.New(rand.NewPCG(9, 10))
	taken := 0
	for range 20000 {
		n := r.IntN(page.MaxPage + 1)
		p := spelled(n, some(r.IntN(page.Room+1), r.Int()))
		if r.IntN(2) == 0 {
			p[8+r.IntN(2)] = byte(r.IntN(256))
		}
		if r.IntN(4) == 0 {
			p[8+r.IntN(504)] = byte(r.IntN(3))
		}
		if r.IntN(4) != 0 {
			p = summed(n, p[8:])
		}
		b, e := page.Decode(n, p)
		if e != api.OK {
			refused(t, n, p, api.ErrSum)
			continue
		}
		taken++
		if again := encoded(t, n, b); !bytes.Equal(again, p) {
			t.Fatalf("Decode(%d, %q) made again: %q", n, p, again)
		}
	}
	if taken < 1000 || taken > 19000 {
		t.Errorf("taken: %d of 20000", taken)
	}
}

// P3.3: each byte of a page, turned into each other one.
func TestOneByte(t *testing.T) {
	for _, size := range []int{0, 1, 255, 256, page.Room} {
		n := numbers[size%len(numbers)]
		b := some(size, 11)
		p := encoded(t, n, b)
		for i := range p {
			was := p[i]
			for c := range 256 {
				if byte(c) == was {
					continue
				}
				p[i] = byte(c)
				refused(t, n, p, api.ErrSum)
			}
			p[i] = was
			if t.Failed() {
				t.FailNow()
			}
		}
		decodes(t, n, p, b)
	}
}

// P3.3: a page that is asked under a number of which one byte is another one; if no page may have that number, it is ErrArg.
func TestOneByteOfNumber(t *testing.T) {
	for _, n := range numbers {
		for _, b := range [][]byte{nil, some(100, 12), some(page.Room, 12)} {
			p := encoded(t, n, b)
			for at := range 8 {
				for c := 1; c < 256; c++ {
					other := int(uint64(n) ^ uint64(c)<<(8*at))
					want := api.ErrSum
					if other < 0 || other > page.MaxPage {
						want = api.ErrArg
					}
					refused(t, other, p, want)
				}
			}
			decodes(t, n, p, b)
		}
	}
}

// beginnings are bytes in groups: within a group all have one sum, of two groups they have not.
func beginnings() [][][]byte {
	nought := []byte("\xd5\x6b\xb9\x53\x42\x87\x08\x36") // its sum is 0, which a byte 0 leaves as it is
	return [][][]byte{
		{[]byte("8yn0iYCKYHlIj4-BwPqk"), []byte("GReLUrM4wMqfg9yzV3KQ")},
		{nought, append(bytes.Clone(nought), 0), append(bytes.Clone(nought), make([]byte, 600)...)},
		{nil},
		{{0}},
		{{0, 0}},
		{{1}},
		{{1, 0}},
		{some(600, 13)},
	}
}

// P3.4: beginnings with one sum have one sum with the same end; such as have not, have not.
func TestStepByStep(t *testing.T) {
	type start struct {
		group int
		b     []byte
	}
	var starts []start
	for g, group := range beginnings() {
		for _, b := range group {
			starts = append(starts, start{g, b})
		}
	}
	ends := [][]byte{nil, {0}, {0xFF}, {0, 0}, some(3, 14), some(page.Room, 14), make([]byte, 1024)}
	for _, x := range starts {
		for _, y := range starts {
			for _, end := range ends {
				a := page.Sum(append(bytes.Clone(x.b), end...))
				b := page.Sum(append(bytes.Clone(y.b), end...))
				if (a == b) != (x.group == y.group) {
					t.Errorf("%q and %q with %q: %d and %d", x.b, y.b, end, a, b)
				}
			}
		}
	}
}

// P3.4: two lists that differ in one byte have unlike sums, wherever it is.
func TestSumsUnlike(t *testing.T) {
	b := some(700, 15)
	whole := page.Sum(b)
	for i := range b {
		for c := 1; c < 256; c++ {
			b[i] ^= byte(c)
			if page.Sum(b) == whole {
				t.Errorf("byte %d turned by %d", i, c)
			}
			b[i] ^= byte(c)
		}
	}
}

// R3: what is handed in is not changed, not kept, and not read beyond its length.
func TestHandedIn(t *testing.T) {
	long := some(1024, 16)
	was := bytes.Clone(long)
	sum := page.Sum(long[:100])
	p := encoded(t, 7, long[:100])
	if !bytes.Equal(long, was) {
		t.Errorf("Encode or Sum changed what it was handed")
	}
	clear(long)
	if page.Sum(was[:100]) != sum || !bytes.Equal(p, spelled(7, was[:100])) {
		t.Errorf("an answer changed with what was handed in")
	}

	both := append(bytes.Clone(p), some(512, 17)...)
	wasBoth := bytes.Clone(both)
	b, _ := page.Decode(7, both[:512])
	if !bytes.Equal(both, wasBoth) {
		t.Errorf("Decode changed what it was handed")
	}
	clear(both)
	if !bytes.Equal(b, was[:100]) {
		t.Errorf("the payload changed with what was handed in: %q", b)
	}
}

// R3: what is handed out is the caller's, its spare room too.
func TestHandedOut(t *testing.T) {
	for _, size := range []int{0, 1, 100, page.Room} {
		want := some(size, 18)
		p, whole := encoded(t, 7, want), spelled(7, want)
		for range 2 {
			first, _ := page.Decode(7, whole)
			second, _ := page.Decode(7, whole)
			fill(first)
			other := encoded(t, 7, want)
			fill(other)
			if !bytes.Equal(second, want) || !bytes.Equal(p, whole) {
				t.Errorf("of %d bytes: an answer shows what was written into another one", size)
			}
			decodes(t, 7, whole, want)
			if !bytes.Equal(encoded(t, 7, want), whole) {
				t.Errorf("of %d bytes: a later page shows what was written into an earlier one", size)
			}
		}
	}
}

// fill writes into all the room that a list has.
func fill(b []byte) {
	b = b[:cap(b)]
	for i := range b {
		b[i] = 'z'
	}
}
