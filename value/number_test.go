package value_test

import (
	"math/big"
	"math/rand"
	"testing"

	"tollgate/api"
	"tollgate/value"
)

// operation is one of the calls that reckon with two numbers.
type operation func(a, b api.Value) (api.Value, api.Errno)

// operations are these calls, each with what it is among all whole numbers (never asked to divide by 0).
func operations() map[string]struct {
	op    operation
	whole func(x, y *big.Int) *big.Int
} {
	return map[string]struct {
		op    operation
		whole func(x, y *big.Int) *big.Int
	}{
		"Add": {value.Add, func(x, y *big.Int) *big.Int { return new(big.Int).Add(x, y) }},
		"Sub": {value.Sub, func(x, y *big.Int) *big.Int { return new(big.Int).Sub(x, y) }},
		"Mul": {value.Mul, func(x, y *big.Int) *big.Int { return new(big.Int).Mul(x, y) }},
		"Div": {value.Div, func(x, y *big.Int) *big.Int { return new(big.Int).Quo(x, y) }},
		"Mod": {value.Mod, func(x, y *big.Int) *big.Int { return new(big.Int).Rem(x, y) }},
	}
}

// numbers are those at the edges of bits, of what can be added and multiplied, small ones, and some at random.
func numbers() []int64 {
	l := []int64{3037000499, 3037000500, -3037000499, -3037000500, 4611686018427387904, 6148914691236517205, 3074457345618258602}
	for n := range int64(12) {
		l = append(l, n, -n, greatest-n, least+n, greatest/2-n, least/2+n)
	}
	for i := range 64 {
		for _, d := range []int64{-1, 0, 1} {
			l = append(l, 1<<i+d, -1<<i+d)
		}
	}
	r := rand.New(rand.NewSource(9))
	for range 100 {
		l = append(l, int64(r.Uint64())>>r.Intn(64))
	}
	return l
}

// P9.2, P9.4: what comes of two numbers is that which is so among all numbers, or is refused.
func TestNumbers(t *testing.T) {
	l := numbers()
	for name, x := range operations() {
		for _, a := range l {
			for _, b := range l {
				v, e := x.op(value.Number(a), value.Number(b))
				if b == 0 && (name == "Div" || name == "Mod") {
					if v != (api.Value{}) || e != api.ErrOver {
						t.Errorf("%s(%d, 0): %v, error %d", name, a, v, e)
					}
					continue
				}
				switch n := x.whole(big.NewInt(a), big.NewInt(b)); {
				case n.IsInt64() && (e != api.OK || v != value.Number(n.Int64())):
					t.Errorf("%s(%d, %d): %v, error %d", name, a, b, v, e)
				case !n.IsInt64() && (e != api.ErrOver || v != api.Value{}):
					t.Errorf("%s(%d, %d): %v, error %d", name, a, b, v, e)
				}
			}
		}
	}
}

// P9.2: Neg, there and back.
func TestNeg(t *testing.T) {
	for _, a := range numbers() {
		v, e := value.Neg(value.Number(a))
		if a == least {
			if v != (api.Value{}) || e != api.ErrOver {
				t.Errorf("Neg(%d): %v, error %d", a, v, e)
			}
			continue
		}
		if v != value.Number(-a) || e != api.OK {
			t.Errorf("Neg(%d): %v, error %d", a, v, e)
		}
		if back, e := value.Neg(v); back != value.Number(a) || e != api.OK {
			t.Errorf("Neg(Neg(%d)): %v, error %d", a, back, e)
		}
	}
}

// Example 1.
func TestNumberExamples(t *testing.T) {
	for _, x := range []struct {
		op   operation
		a, b int64
		want int64
		e    api.Errno
	}{
		{value.Add, greatest, 1, 0, api.ErrOver}, {value.Add, 1, greatest, 0, api.ErrOver}, {value.Add, least, -1, 0, api.ErrOver},
		{value.Add, least, greatest, -1, api.OK}, {value.Sub, 0, least, 0, api.ErrOver}, {value.Sub, -1, least, greatest, api.OK},
		{value.Sub, least, least, 0, api.OK}, {value.Sub, least, 1, 0, api.ErrOver}, {value.Mul, least, -1, 0, api.ErrOver},
		{value.Mul, -1, least, 0, api.ErrOver}, {value.Mul, least, 1, least, api.OK}, {value.Mul, least / 2, 2, least, api.OK},
		{value.Mul, least, 0, 0, api.OK}, {value.Mul, 1 << 32, 1 << 32, 0, api.ErrOver},
		{value.Div, -7, 2, -3, api.OK}, {value.Mod, -7, 2, -1, api.OK}, {value.Div, 7, -2, -3, api.OK}, {value.Mod, 7, -2, 1, api.OK},
		{value.Div, -7, -2, 3, api.OK}, {value.Mod, -7, -2, -1, api.OK},
		{value.Div, least, -1, 0, api.ErrOver}, {value.Mod, least, -1, 0, api.OK}, {value.Div, 1, 0, 0, api.ErrOver},
		{value.Div, 0, 0, 0, api.ErrOver}, {value.Mod, 1, 0, 0, api.ErrOver}, {value.Mod, least, 0, 0, api.ErrOver},
	} {
		want := api.Value{}
		if x.e == api.OK {
			want = value.Number(x.want)
		}
		if v, e := x.op(value.Number(x.a), value.Number(x.b)); v != want || e != x.e {
			t.Errorf("%d, %d: %v, error %d, not %v, error %d", x.a, x.b, v, e, want, x.e)
		}
	}
	if v, e := value.Neg(value.Number(least)); v != (api.Value{}) || e != api.ErrOver {
		t.Errorf("Neg of the least number: %v, error %d", v, e)
	}
}

// P9.2: values that are no numbers, or may not be, are refused on either side, ahead of what would come of them.
func TestNoNumbers(t *testing.T) {
	for _, a := range some() {
		if a.Kind == api.Int && value.Check(a) == api.OK {
			continue
		}
		refused := func(call string, v api.Value, e api.Errno) {
			if v != (api.Value{}) || e != api.ErrType {
				t.Errorf("%s with %.40v: %v, error %d", call, a, v, e)
			}
		}
		v, e := value.Neg(a)
		refused("Neg", v, e)
		for name, x := range operations() {
			for _, n := range []int64{0, 1, -1, least, greatest} {
				v, e := x.op(a, value.Number(n))
				refused(name, v, e)
				v, e = x.op(value.Number(n), a)
				refused(name, v, e)
			}
			v, e := x.op(a, a)
			refused(name, v, e)
		}
	}
	for name, x := range operations() {
		over := api.Value{Kind: api.Int, Int: greatest, Text: "a"}
		if v, e := x.op(over, over); v != (api.Value{}) || e != api.ErrType {
			t.Errorf("%s of no numbers: %v, error %d", name, v, e)
		}
	}
}

// P9.4: Add and Mul are the same either way round; Sub undoes Add, where neither is refused.
func TestAddLaws(t *testing.T) {
	l := numbers()
	for _, m := range l {
		for _, n := range l {
			a, b := value.Number(m), value.Number(n)
			for _, op := range []operation{value.Add, value.Mul} {
				v, e := op(a, b)
				if w, f := op(b, a); v != w || e != f {
					t.Errorf("%d, %d: %v, error %d; the other way round %v, error %d", m, n, v, e, w, f)
				}
			}
			sum, e := value.Add(a, b)
			if e != api.OK {
				continue
			}
			if back, e := value.Sub(sum, b); e == api.OK && back != a {
				t.Errorf("%d and %d less %d: %v", m, n, n, back)
			}
		}
	}
}

// P9.4: Div times b and Mod together are a; Mod is nearer to 0 than b, and has a's sign, or is 0.
func TestDivLaws(t *testing.T) {
	far := func(n int64) *big.Int { return new(big.Int).Abs(big.NewInt(n)) }
	l := numbers()
	for _, m := range l {
		for _, n := range l {
			a, b := value.Number(m), value.Number(n)
			mod, e := value.Mod(a, b)
			if (n == 0) != (e == api.ErrOver) {
				t.Errorf("Mod(%d, %d): error %d", m, n, e)
			}
			if e != api.OK {
				continue
			}
			if far(mod.Int).Cmp(far(n)) >= 0 || mod.Int != 0 && (mod.Int < 0) != (m < 0) {
				t.Errorf("Mod(%d, %d): %d", m, n, mod.Int)
			}
			div, e := value.Div(a, b)
			if e != api.OK {
				continue
			}
			times, e := value.Mul(div, b)
			if e != api.OK {
				t.Errorf("Div(%d, %d) times %d: error %d", m, n, n, e)
			}
			if back, e := value.Add(times, mod); back != a || e != api.OK {
				t.Errorf("Div(%d, %d) times %d and Mod: %v, error %d", m, n, n, back, e)
			}
		}
	}
}
