package word_test

import (
	"math/big"
	"regexp"
	"strings"
	"testing"

	"tollgate/word"
)

// form tells which texts are of a number's form, but for how great the number is.
var form = regexp.MustCompile(`^(0|-?[1-9][0-9]*)$`)

// P1.1, example 1.
func TestNumberExamples(t *testing.T) {
	for n, want := range map[int64]string{
		0: "0", 1: "1", -1: "-1", 10: "10", -10: "-10", 1048576: "1048576",
		1<<63 - 1: "9223372036854775807", -1 << 63: "-9223372036854775808",
	} {
		if s := word.Number(n); s != want {
			t.Errorf("Number(%d): %q", n, s)
		}
		if m, ok := word.Parse(want); m != n || !ok {
			t.Errorf("Parse(%q): %d, %v", want, m, ok)
		}
	}
}

// P1.1: texts of another form are none.
func TestParseWrong(t *testing.T) {
	for _, s := range []string{
		"", "-", "+", "+1", "-0", "+0", "00", "01", "-01", "--1", "1-", " 1", "1 ", "\n1", "1\n", "1\x00",
		"1_000", "1,000", "1.0", "1e3", "0x1", "0b1", "0o7", "a", "\u0661", "\uff11", "\u22121",
		"9223372036854775808", "-9223372036854775809", "18446744073709551615", "18446744073709551616",
		"18446744073709551617", "-18446744073709551617", "09223372036854775807", "10000000000000000000",
		strings.Repeat("0", 100000), strings.Repeat("9", 100000), "1" + strings.Repeat("0", 100000),
	} {
		if n, ok := word.Parse(s); n != 0 || ok {
			t.Errorf("Parse(%.40q): %d, %v", s, n, ok)
		}
	}
}

// P1.4: Parse undoes Number, at the edges of digits and of bits.
func TestParseUndoesNumber(t *testing.T) {
	back := func(n int64) {
		s := word.Number(n)
		if want := big.NewInt(n).String(); s != want || !form.MatchString(s) {
			t.Errorf("Number(%d): %q", n, s)
		}
		if m, ok := word.Parse(s); m != n || !ok {
			t.Errorf("Parse(%q): %d, %v", s, m, ok)
		}
	}
	for i := range 64 {
		for _, d := range []int64{-1, 0, 1} {
			back(1<<i + d)
			back(-1<<i + d)
		}
	}
	for n := int64(1); n < 1e18; n *= 10 {
		for _, d := range []int64{-1, 0, 1} {
			back(n + d)
			back(-n + d)
		}
	}
}

// P1.4: of all short texts just those are read that Number writes.
func TestParseShort(t *testing.T) {
	var try func(s string, room int)
	try = func(s string, room int) {
		n, ok := word.Parse(s)
		if ok != form.MatchString(s) || ok && word.Number(n) != s || !ok && n != 0 {
			t.Errorf("Parse(%q): %d, %v", s, n, ok)
		}
		if room == 0 {
			return
		}
		for _, c := range "-+0159 _xe.\u0661" {
			try(s+string(c), room-1)
		}
	}
	try("", 4)
}

// P1.1: just the numbers from -2^63 to 2^63 - 1 are read.
func TestParseRange(t *testing.T) {
	for _, edge := range []string{"9223372036854775807", "-9223372036854775808", "18446744073709551616", "-18446744073709551616"} {
		middle, _ := new(big.Int).SetString(edge, 10)
		for d := int64(-20); d <= 20; d++ {
			want := new(big.Int).Add(middle, big.NewInt(d))
			n, ok := word.Parse(want.String())
			if ok != want.IsInt64() || ok && n != want.Int64() || !ok && n != 0 {
				t.Errorf("Parse(%q): %d, %v", want, n, ok)
			}
		}
	}
}
