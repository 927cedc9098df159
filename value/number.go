package value

import (
	"math"

	"tollgate/api"
)

// Add is a sum.
func Add(a, b api.Value) (api.Value, api.Errno) {
	return reckon(a, b, func(x, y int64) (int64, bool) {
		n := x + y
		return n, (n < x) == (y < 0)
	})
}

// Sub is a difference.
func Sub(a, b api.Value) (api.Value, api.Errno) {
	return reckon(a, b, func(x, y int64) (int64, bool) {
		n := x - y
		return n, (n > x) == (y < 0)
	})
}

// Mul is a product.
func Mul(a, b api.Value) (api.Value, api.Errno) {
	return reckon(a, b, func(x, y int64) (int64, bool) {
		if x == 0 || y == 0 {
			return 0, true
		}
		n := x * y
		// The least number is its own other sign, so that dividing does not tell it from what it went round from.
		return n, n/y == x && (n < 0) == ((x < 0) != (y < 0))
	})
}

// Div is a quotient, cut towards 0.
func Div(a, b api.Value) (api.Value, api.Errno) {
	return reckon(a, b, func(x, y int64) (int64, bool) {
		if y == 0 || x == math.MinInt64 && y == -1 {
			return 0, false
		}
		return x / y, true
	})
}

// Mod is what Div leaves.
func Mod(a, b api.Value) (api.Value, api.Errno) {
	return reckon(a, b, func(x, y int64) (int64, bool) {
		if y == 0 {
			return 0, false
		}
		return x % y, true
	})
}

// Neg is the number with the other sign.
func Neg(a api.Value) (api.Value, api.Errno) {
	return Sub(Number(0), a)
}

// reckon is what an operation makes of two numbers; the operation says whether there is such a number.
func reckon(a, b api.Value, op func(x, y int64) (int64, bool)) (api.Value, api.Errno) {
	if a != Number(a.Int) || b != Number(b.Int) {
		return api.Value{}, api.ErrType
	}
	n, ok := op(a.Int, b.Int)
	if !ok {
		return api.Value{}, api.ErrOver
	}
	return Number(n), api.OK
}
