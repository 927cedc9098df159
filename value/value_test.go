package value_test

import (
	"cmp"
	"regexp"
	"strings"
	"testing"
	"unicode/utf8"

	"tollgate/api"
	"tollgate/value"
	"tollgate/word"
)

const (
	least    = -1 << 63
	greatest = 1<<63 - 1
)

// long is a text of n bytes.
func long(n int) string { return strings.Repeat("x", n) }

// good are values that may be, with their texts.
func good() map[api.Value]string {
	return map[api.Value]string{
		{Kind: api.Int}:                                           "0",
		{Kind: api.Int, Int: 1}:                                   "1",
		{Kind: api.Int, Int: -1}:                                  "-1",
		{Kind: api.Int, Int: greatest}:                            "9223372036854775807",
		{Kind: api.Int, Int: least}:                               "-9223372036854775808",
		{Kind: api.Bool}:                                          "false",
		{Kind: api.Bool, Bool: true}:                              "true",
		{Kind: api.Text}:                                          `""`,
		{Kind: api.Text, Text: "a"}:                               `"a"`,
		{Kind: api.Text, Text: "aa"}:                              `"aa"`,
		{Kind: api.Text, Text: `a"`}:                              `"a\""`,
		{Kind: api.Text, Text: "\\\n\x00 "}:                       `"\\\n\x00 "`,
		{Kind: api.Text, Text: "\u00e9"}:                          `"\xc3\xa9"`,
		{Kind: api.Text, Text: "true"}:                            `"true"`,
		{Kind: api.Text, Text: "12"}:                              `"12"`,
		{Kind: api.Text, Text: long(1024)}:                        `"` + long(1024) + `"`,
		{Kind: api.Text, Text: strings.Repeat("\x00", 1024)}:      `"` + strings.Repeat(`\x00`, 1024) + `"`,
		{Kind: api.Text, Text: strings.Repeat("\U0010ffff", 256)}: `"` + strings.Repeat(`\xf4\x8f\xbf\xbf`, 256) + `"`,
	}
}

// bad are values that may not be.
func bad() []api.Value {
	return []api.Value{
		{}, {Int: 1}, {Bool: true}, {Text: "a"},
		{Kind: 4}, {Kind: 7, Int: 1}, {Kind: 255, Text: "a"}, {Kind: 4, Bool: true},
		{Kind: api.Int, Bool: true}, {Kind: api.Int, Text: "a"}, {Kind: api.Int, Int: 5, Text: "5"}, {Kind: api.Int, Int: 1, Bool: true},
		{Kind: api.Bool, Int: 1}, {Kind: api.Bool, Bool: true, Int: -1}, {Kind: api.Bool, Text: "true"}, {Kind: api.Bool, Bool: true, Text: "\x00"},
		{Kind: api.Text, Int: 1}, {Kind: api.Text, Bool: true}, {Kind: api.Text, Text: "a", Int: least}, {Kind: api.Text, Text: "a", Bool: true},
		{Kind: api.Text, Text: long(1025)}, {Kind: api.Text, Text: long(1023) + "\u00e9"}, {Kind: api.Text, Text: long(1 << 20)},
		{Kind: api.Text, Text: "\xff"}, {Kind: api.Text, Text: "a\xc3"}, {Kind: api.Text, Text: "\xc0\x80"}, {Kind: api.Text, Text: "\xed\xa0\x80"},
		{Kind: api.Text, Text: long(1023) + "\x80"}, {Kind: api.Text, Text: "\xf4\x90\x80\x80"},
	}
}

// some are values of all sorts, those that may not be among them.
func some() []api.Value {
	l := bad()
	for v := range good() {
		l = append(l, v)
	}
	return l
}

// P9.1: which values may be.
func TestCheck(t *testing.T) {
	for v := range good() {
		if e := value.Check(v); e != api.OK {
			t.Errorf("Check(%.60v): error %d", v, e)
		}
	}
	for _, v := range bad() {
		if e := value.Check(v); e != api.ErrArg {
			t.Errorf("Check(%.60v): error %d", v, e)
		}
	}
}

// P9.1: the values of numbers, truths and texts, whether they may be or not.
func TestMade(t *testing.T) {
	for _, n := range []int64{0, 1, -1, least, greatest} {
		if v := value.Number(n); v != (api.Value{Kind: 1, Int: n}) {
			t.Errorf("Number(%d): %v", n, v)
		}
	}
	for _, b := range []bool{false, true} {
		if v := value.Truth(b); v != (api.Value{Kind: 2, Bool: b}) {
			t.Errorf("Truth(%v): %v", b, v)
		}
	}
	for _, s := range []string{"", "a", "\xff\x00", long(1025)} {
		if v := value.Words(s); v != (api.Value{Kind: 3, Text: s}) {
			t.Errorf("Words(%.20q): %.60v", s, v)
		}
	}
}

// grid are all values of a few kinds, numbers, truths and texts, in order, and none twice.
func grid() []api.Value {
	var l []api.Value
	for _, kind := range []uint8{0, 1, 2, 3, 4, 255} {
		for _, n := range []int64{least, -1, 0, 1, greatest} {
			for _, b := range []bool{false, true} {
				for _, s := range []string{"", "\x00", "B", "a", "a\x00", "aa", "b", "\x7f", "\x80", "\xff"} {
					l = append(l, api.Value{Kind: kind, Int: n, Bool: b, Text: s})
				}
			}
		}
	}
	return l
}

// P9.1, P9.5: by Kind, then by Int, then by Bool, then by Text; of any values; 0 just of what is the same.
func TestOrder(t *testing.T) {
	l := grid()
	for i, a := range l {
		for k, b := range l {
			// The text is made anew, so that it is not known by where it stands.
			b.Text = string([]byte(b.Text))
			if value.Same(a, b) != (i == k) {
				t.Fatalf("Same(%v, %v) is %v", a, b, i != k)
			}
			if c := value.Cmp(a, b); c != cmp.Compare(i, k) {
				t.Fatalf("Cmp(%v, %v): %d", a, b, c)
			}
		}
	}
}

// Example 2.
func TestOrderExamples(t *testing.T) {
	if c := value.Cmp(value.Number(5), value.Truth(true)); c != -1 {
		t.Errorf("Cmp of 5 and true: %d", c)
	}
	if c := value.Cmp(value.Words(""), value.Truth(true)); c != 1 {
		t.Errorf("Cmp of a text and true: %d", c)
	}
	if less, e := value.Less(value.Words("a"), value.Words("b")); !less || e != api.OK {
		t.Errorf("Less of a and b: %v, error %d", less, e)
	}
	if less, e := value.Less(value.Truth(false), value.Truth(true)); less || e != api.ErrType {
		t.Errorf("Less of false and true: %v, error %d", less, e)
	}
}

// P9.2, P9.5: Less says the same as Cmp of two numbers or two texts that may be, and refuses all else.
func TestLess(t *testing.T) {
	for _, a := range some() {
		for _, b := range some() {
			may := value.Check(a) == api.OK && value.Check(b) == api.OK && a.Kind == b.Kind && a.Kind != api.Bool
			less, e := value.Less(a, b)
			switch {
			case !may && (less || e != api.ErrType):
				t.Errorf("Less(%.40v, %.40v): %v, error %d", a, b, less, e)
			case may && e != api.OK:
				t.Errorf("Less(%.40v, %.40v): error %d", a, b, e)
			case may && less != (value.Cmp(a, b) == -1):
				t.Errorf("Less(%.40v, %.40v): %v", a, b, less)
			case may && less != (a.Int < b.Int || a.Text < b.Text):
				t.Errorf("Less(%.40v, %.40v): %v", a, b, less)
			}
		}
	}
}

// P9.1, P9.5: the texts of values, there and back.
func TestTexts(t *testing.T) {
	for v, want := range good() {
		if s := value.Text(v); s != want {
			t.Errorf("Text(%.60v): %.40q", v, s)
		}
		if back, e := value.Parse(v.Kind, want); back != v || e != api.OK {
			t.Errorf("Parse(%d, %.40q): %.60v, error %d", v.Kind, want, back, e)
		}
	}
	for _, v := range bad() {
		if s := value.Text(v); s != "" {
			t.Errorf("Text(%.60v): %.40q", v, s)
		}
	}
}

// P9.1: texts that are no value's, and kinds that are none.
func TestParseRefused(t *testing.T) {
	refuse := func(kind uint8, s string, want api.Errno) {
		if v, e := value.Parse(kind, s); v != (api.Value{}) || e != want {
			t.Errorf("Parse(%d, %.40q): %.60v, error %d", kind, s, v, e)
		}
	}
	texts := []string{"", "0", "-1", "true", "false", `""`, `"a"`, "x", " "}
	for kind := range 256 {
		if kind >= 1 && kind <= 3 {
			continue
		}
		for _, s := range texts {
			refuse(uint8(kind), s, api.ErrArg)
		}
	}
	for _, s := range []string{
		"", "-", "+", "+1", "01", "00", "-0", "-01", " 1", "1 ", "1\n", "0x1", "1e3", "1_0", "1.0", "true", "false", `""`, `"1"`, "'1'",
		"9223372036854775808", "-9223372036854775809", "18446744073709551616", "18446744073709551617", strings.Repeat("9", 100000),
	} {
		refuse(api.Int, s, api.ErrForm)
	}
	for _, s := range []string{
		"", "yes", "no", "0", "1", "True", "TRUE", "t", "f", "False", "fals", "falsee", "truetrue", " true", "true ", "true\n", `"true"`, "truefalse", "\x00",
	} {
		refuse(api.Bool, s, api.ErrForm)
	}
	for _, s := range []string{
		"", `"`, "a", `"a`, `a"`, "'a'", `"\x0a"`, `"\x0A"`, `"\xC3\xA9"`, `"\x41"`, `"\q"`, `"a"b"`, `"a" `, ` "a"`, "\"\n\"", "\"\u00e9\"", `"\"`, `"\x"`, `"\x0"`,
		`"\xff"`, `"\xc3"`, `"\xc0\x80"`, `"\xed\xa0\x80"`, `"a\x80"`, `"` + long(1025) + `"`, `"` + long(1<<20) + `"`,
		`"` + strings.Repeat(`\x00`, 1025) + `"`, `"` + long(1023) + `\xc3\xa9"`, "true", "0", "\x00", "\"\x7f\"",
	} {
		refuse(api.Text, s, api.ErrForm)
	}
}

// P9.1, P9.5: of all short texts just those are read that are a value's.
func TestParseShort(t *testing.T) {
	number := regexp.MustCompile(`^(0|-?[1-9][0-9]*)$`)
	var each func(s string, room int)
	each = func(s string, room int) {
		said, quoted := word.Unquote(s)
		for kind, want := range map[uint8]bool{
			api.Int: number.MatchString(s), api.Bool: s == "true" || s == "false", api.Text: quoted && utf8.ValidString(said),
		} {
			v, e := value.Parse(kind, s)
			switch {
			case want && (e != api.OK || v.Kind != kind || value.Check(v) != api.OK || value.Text(v) != s):
				t.Errorf("Parse(%d, %q): %v, error %d", kind, s, v, e)
			case !want && (e != api.ErrForm || v != api.Value{}):
				t.Errorf("Parse(%d, %q): %v, error %d", kind, s, v, e)
			}
		}
		if room == 0 {
			return
		}
		for _, part := range []string{"-", "+", "0", "1", "9", `"`, `\`, "n", `\x00`, `\xc3`, `\xa9`, "\u00e9", " ", "\n", "true", "false", "a"} {
			each(s+part, room-1)
		}
	}
	each("", 4)
}
