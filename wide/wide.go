// Package wide: numbers of 64 bits, held at the greatest one, and the ones of 128 bits between.
package wide

import (
	"math/bits"

	"varve/api"
)

// double is a number of 128 bits: what stands above 64 bits, what below.
type double [2]uint64

// division is what comes out of a division. Where fits holds it is unlike the zero one, so that a quotient of 0 with
// nothing left is not taken for none.
type division struct {
	quotient, rest uint64
	fits           bool
}

// Add is the sum, Most at most.
func Add(a, b uint64) uint64 {
	if sum := a + b; sum >= a {
		return sum
	}
	return api.Most
}

// Sub is a less b, 0 at least.
func Sub(a, b uint64) uint64 {
	if b > a {
		return 0
	}
	return a - b
}

// Mul is the product, Most at most.
func Mul(a, b uint64) uint64 {
	p := product(a, b)
	if p[0] != 0 {
		return api.Most
	}
	return p[1]
}

// Full is the whole product: what stands above 64 bits, what below.
func Full(a, b uint64) (uint64, uint64) {
	p := product(a, b)
	return p[0], p[1]
}

// Div divides hi times 2^64 and lo by d: the quotient, what is left, and whether there is one of 64 bits.
func Div(hi, lo, d uint64) (uint64, uint64, bool) {
	out := divide(double{hi, lo}, d)
	if out == (division{}) {
		return 0, 0, false
	}
	return out.quotient, out.rest, true
}

// Floor is a times b by d, rounded down.
func Floor(a, b, d uint64) (uint64, bool) {
	out := divide(product(a, b), d)
	if out == (division{}) {
		return 0, false
	}
	return out.quotient, true
}

// Ceil is a times b by d, rounded up.
func Ceil(a, b, d uint64) (uint64, bool) {
	out := roundUp(divide(product(a, b), d))
	if out == (division{}) {
		return 0, false
	}
	return out.quotient, true
}

// Cmp holds a times d against c times b: -1, 0 or 1.
func Cmp(a, b, c, d uint64) int {
	left, right := product(a, d), product(c, b)
	for i := range left {
		if left[i] < right[i] {
			return -1
		}
		if left[i] > right[i] {
			return 1
		}
	}
	return 0
}

func product(a, b uint64) double {
	hi, lo := bits.Mul64(a, b)
	return double{hi, lo}
}

// divide answers the zero division where there is no quotient of 64 bits: bits.Div64 would panic there.
func divide(n double, d uint64) division {
	if d == 0 || n[0] >= d {
		return division{}
	}
	quotient, rest := bits.Div64(n[0], n[1], d)
	return division{quotient: quotient, rest: rest, fits: true}
}

// roundUp answers the zero division where one more would be 2^64.
func roundUp(x division) division {
	if x.rest == 0 {
		return x
	}
	if x.quotient == api.Most {
		return division{}
	}
	return division{quotient: x.quotient + 1, fits: true}
}
