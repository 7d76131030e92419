package wide_test

import (
	"math/big"
	"testing"

	"varve/api"
	"varve/wide"
)

const most = api.Most

// edges are the numbers at which sums, products and quotients of 64 bits turn.
var edges = []uint64{0, 1, 2, 3, 4, 5, 7, 10, 1<<31 - 1, 1 << 31, 1<<32 - 1, 1 << 32, 1<<32 + 1, 1<<33 - 1, 1<<63 - 1, 1 << 63, 1<<63 + 1, most - 2, most - 1, most}

// mixer tells numbers of all widths, the same ones in each run.
type mixer uint64

func (m *mixer) next() uint64 {
	*m += 0x9e3779b97f4a7c15
	x := uint64(*m)
	x = (x ^ x>>30) * 0xbf58476d1ce4e5b9
	x = (x ^ x>>27) * 0x94d049bb133111eb
	x ^= x >> 31
	return x >> (x & 63)
}

// samples calls f with all triples of edges, and with mixed ones.
func samples(f func(a, b, c uint64)) {
	for _, a := range edges {
		for _, b := range edges {
			for _, c := range edges {
				f(a, b, c)
			}
		}
	}
	m := mixer(1)
	for range 100000 {
		f(m.next(), m.next(), m.next())
	}
}

func number(v uint64) *big.Int { return new(big.Int).SetUint64(v) }

func times(a, b uint64) *big.Int { return new(big.Int).Mul(number(a), number(b)) }

// wider is hi times 2^64 and lo.
func wider(hi, lo uint64) *big.Int {
	return new(big.Int).Add(new(big.Int).Lsh(number(hi), 64), number(lo))
}

// held is a number of any size, 0 at least, Most at most.
func held(v *big.Int) uint64 {
	if v.Sign() < 0 {
		return 0
	}
	if !v.IsUint64() {
		return most
	}
	return v.Uint64()
}

// fit is v and true, or 0 and false if it has more than 64 bits.
func fit(v *big.Int) (uint64, bool) {
	if !v.IsUint64() {
		return 0, false
	}
	return v.Uint64(), true
}

// P1.1: the sum, held at Most.
func TestAdd(t *testing.T) {
	for _, x := range [][3]uint64{
		{0, 0, 0}, {2, 3, 5}, {most, 0, most}, {0, most, most},
		{most - 1, 1, most}, {most, 1, most}, {1, most, most}, {most, most, most},
		{1 << 63, 1<<63 - 1, most}, {1 << 63, 1 << 63, most}, {1 << 63, 1<<63 - 2, most - 1},
	} {
		if got := wide.Add(x[0], x[1]); got != x[2] {
			t.Errorf("Add(%d, %d) = %d, want %d", x[0], x[1], got, x[2])
		}
	}
	samples(func(a, b, _ uint64) {
		want := held(new(big.Int).Add(number(a), number(b)))
		if got := wide.Add(a, b); got != want {
			t.Fatalf("Add(%d, %d) = %d, want %d", a, b, got, want)
		}
	})
}

// P1.1: the difference, 0 where it would be below.
func TestSub(t *testing.T) {
	for _, x := range [][3]uint64{
		{3, 2, 1}, {2, 3, 0}, {2, 2, 0}, {0, 0, 0}, {0, 1, 0}, {0, most, 0},
		{most, most, 0}, {most, 0, most}, {most - 1, most, 0}, {most, most - 1, 1}, {1 << 63, 1, 1<<63 - 1},
	} {
		if got := wide.Sub(x[0], x[1]); got != x[2] {
			t.Errorf("Sub(%d, %d) = %d, want %d", x[0], x[1], got, x[2])
		}
	}
	samples(func(a, b, _ uint64) {
		want := held(new(big.Int).Sub(number(a), number(b)))
		if got := wide.Sub(a, b); got != want {
			t.Fatalf("Sub(%d, %d) = %d, want %d", a, b, got, want)
		}
	})
}

// P1.1: the product, held at Most.
func TestMul(t *testing.T) {
	for _, x := range [][3]uint64{
		{2, 3, 6}, {0, most, 0}, {most, 0, 0}, {most, 1, most}, {most, 2, most}, {most, most, most},
		{1<<32 - 1, 1<<32 + 1, most}, {1 << 32, 1 << 32, most}, {1 << 32, 1<<32 - 1, 1<<64 - 1<<32},
		{1 << 63, 2, most}, {1<<63 - 1, 2, most - 1}, {most / 3, 3, most}, {most/3 + 1, 3, most},
	} {
		if got := wide.Mul(x[0], x[1]); got != x[2] {
			t.Errorf("Mul(%d, %d) = %d, want %d", x[0], x[1], got, x[2])
		}
	}
	samples(func(a, b, _ uint64) {
		want := held(times(a, b))
		if got := wide.Mul(a, b); got != want {
			t.Fatalf("Mul(%d, %d) = %d, want %d", a, b, got, want)
		}
	})
}

// P1.1: the whole product, in two halves.
func TestFull(t *testing.T) {
	for _, x := range [][4]uint64{
		{1 << 63, 4, 2, 0}, {2, 3, 0, 6}, {0, most, 0, 0}, {most, 1, 0, most},
		{1 << 32, 1 << 32, 1, 0}, {most, 2, 1, most - 1}, {most, most, most - 1, 1},
	} {
		if hi, lo := wide.Full(x[0], x[1]); hi != x[2] || lo != x[3] {
			t.Errorf("Full(%d, %d) = %d, %d, want %d, %d", x[0], x[1], hi, lo, x[2], x[3])
		}
	}
	samples(func(a, b, _ uint64) {
		if hi, lo := wide.Full(a, b); wider(hi, lo).Cmp(times(a, b)) != 0 {
			t.Fatalf("Full(%d, %d) = %d, %d", a, b, hi, lo)
		}
	})
}

// P1.2: the quotient and what is left; zeros and false by 0, and where the quotient has more than 64 bits.
func TestDiv(t *testing.T) {
	for _, x := range []struct {
		hi, lo, d, q, r uint64
		ok              bool
	}{
		{0, 10, 3, 3, 1, true},
		{0, 9, 3, 3, 0, true},
		{0, 0, 1, 0, 0, true}, // nothing by something is no refusal
		{0, 0, most, 0, 0, true},
		{0, 2, 3, 0, 2, true},
		{1, 0, 2, 1 << 63, 0, true},
		{2, 5, 3, 12297829382473034412, 1, true},
		{1, most, 2, most, 1, true},
		{most - 1, most, most, most, most - 1, true}, // the greatest there is
		{1, 0, 1, 0, 0, false},
		{3, 0, 3, 0, 0, false}, // 2^64 just so
		{3, most, 3, 0, 0, false},
		{4, 7, 3, 0, 0, false},
		{most, most, most, 0, 0, false},
		{most, 0, 1, 0, 0, false},
		{0, 0, 0, 0, 0, false},
		{0, 5, 0, 0, 0, false},
		{1, 0, 0, 0, 0, false},
		{most, most, 0, 0, 0, false},
	} {
		if q, r, ok := wide.Div(x.hi, x.lo, x.d); q != x.q || r != x.r || ok != x.ok {
			t.Errorf("Div(%d, %d, %d) = %d, %d, %t, want %d, %d, %t", x.hi, x.lo, x.d, q, r, ok, x.q, x.r, x.ok)
		}
	}
	samples(func(hi, lo, d uint64) {
		var want [2]uint64
		wantOk := false
		if d != 0 {
			q, r := new(big.Int).QuoRem(wider(hi, lo), number(d), new(big.Int))
			if q.IsUint64() {
				want, wantOk = [2]uint64{q.Uint64(), r.Uint64()}, true
			}
		}
		if q, r, ok := wide.Div(hi, lo, d); [2]uint64{q, r} != want || ok != wantOk {
			t.Fatalf("Div(%d, %d, %d) = %d, %d, %t, want %d, %t", hi, lo, d, q, r, ok, want, wantOk)
		}
	})
}

// P1.2: a product by d, rounded down and up; 0 and false by 0, and at 2^64 and above.
func TestFloorAndCeil(t *testing.T) {
	for _, x := range []struct {
		a, b, d, low uint64
		lowOk        bool
		high         uint64
		highOk       bool
		about        string
	}{
		{10, 10, 3, 33, true, 34, true, "rounded"},
		{10, 10, 5, 20, true, 20, true, "even"},
		{10, 10, 100, 1, true, 1, true, "even"},
		{10, 10, 101, 0, true, 1, true, "below 1"},
		{0, 5, 9, 0, true, 0, true, "nothing"},
		{0, 0, 1, 0, true, 0, true, "nothing"},
		{1, 1, most, 0, true, 1, true, "below 1"},
		{most, most, most, most, true, most, true, "even, the greatest"},
		{most, 2, 2, most, true, most, true, "even, of 128 bits"},
		{1 << 63, 4, 3, 12297829382473034410, true, 12297829382473034411, true, "rounded, of 128 bits"},
		{10, 10, 0, 0, false, 0, false, "by 0"},
		{0, 0, 0, 0, false, 0, false, "nothing by 0"},
		{most, most, 0, 0, false, 0, false, "by 0"},
		{1 << 63, 2, 1, 0, false, 0, false, "2^64"},
		{1 << 63, 6, 3, 0, false, 0, false, "2^64"},
		{most, most, most - 1, 0, false, 0, false, "above 2^64"},
		{most, most, 1, 0, false, 0, false, "far above"},
		{6148914691236517205, 6, 2, most, true, most, true, "even, the greatest"},
		{1<<63 + 2, most - 2, 1<<63 + 1, most - 1, true, most, true, "up to the greatest"},
		{1<<63 + 2, most - 1, 1<<63 + 1, most, true, 0, false, "up to 2^64"},
	} {
		low, lowOk := wide.Floor(x.a, x.b, x.d)
		if low != x.low || lowOk != x.lowOk {
			t.Errorf("%s: Floor(%d, %d, %d) = %d, %t, want %d, %t", x.about, x.a, x.b, x.d, low, lowOk, x.low, x.lowOk)
		}
		high, highOk := wide.Ceil(x.a, x.b, x.d)
		if high != x.high || highOk != x.highOk {
			t.Errorf("%s: Ceil(%d, %d, %d) = %d, %t, want %d, %t", x.about, x.a, x.b, x.d, high, highOk, x.high, x.highOk)
		}
	}
}

// P1.2: the same, held against numbers of any size.
func TestFloorAndCeilAgainstBig(t *testing.T) {
	samples(func(a, b, d uint64) {
		var low, high uint64
		var lowOk, highOk bool
		if d != 0 {
			q, r := new(big.Int).QuoRem(times(a, b), number(d), new(big.Int))
			low, lowOk = fit(q)
			if r.Sign() != 0 {
				q = q.Add(q, number(1))
			}
			high, highOk = fit(q)
		}
		if got, ok := wide.Floor(a, b, d); got != low || ok != lowOk {
			t.Fatalf("Floor(%d, %d, %d) = %d, %t, want %d, %t", a, b, d, got, ok, low, lowOk)
		}
		if got, ok := wide.Ceil(a, b, d); got != high || ok != highOk {
			t.Fatalf("Ceil(%d, %d, %d) = %d, %t, want %d, %t", a, b, d, got, ok, high, highOk)
		}
	})
}

// P1.3: two products held against each other.
func TestCmp(t *testing.T) {
	for _, x := range []struct {
		a, b, c, d uint64
		want       int
	}{
		{1, 2, 1, 3, 1},
		{1, 3, 1, 2, -1},
		{2, 4, 1, 2, 0},
		{most, 1, most, 1, 0},
		{most, most, most, most, 0},
		{5, 0, 7, 0, 0},  // both are 0
		{1, 0, 0, 1, 1},  // only c times b is 0
		{0, 1, 1, 0, -1}, // only a times d is 0
		{0, 0, 0, 0, 0},
		{most, 0, most, most, 1},
		{most, most, most, 0, -1},
		{1 << 32, 1, 5, 1 << 32, 1},  // 2^64 against 5: the lower half says otherwise
		{5, 1 << 32, 1 << 32, 1, -1}, // turned round
		{1 << 63, 2, 1 << 63, 4, 1},  // 2^65 against 2^64: in the upper half alone
		{1 << 63, 4, 1 << 63, 2, -1},
		{1<<32 + 1, 1 << 32, 1 << 32, 1 << 32, 1}, // 2^64 + 2^32 against 2^64: in the lower half alone
		{1 << 32, 1 << 32, 1<<32 + 1, 1 << 32, -1},
		{most, most - 1, most - 1, most, 1},
		{most - 1, most, most, most - 1, -1},
	} {
		if got := wide.Cmp(x.a, x.b, x.c, x.d); got != x.want {
			t.Errorf("Cmp(%d, %d, %d, %d) = %d, want %d", x.a, x.b, x.c, x.d, got, x.want)
		}
	}
	m := mixer(2)
	samples(func(a, b, c uint64) {
		for _, d := range []uint64{a, b, c, edges[m.next()%uint64(len(edges))], m.next()} {
			want := times(a, d).Cmp(times(c, b))
			if got := wide.Cmp(a, b, c, d); got != want {
				t.Fatalf("Cmp(%d, %d, %d, %d) = %d, want %d", a, b, c, d, got, want)
			}
		}
	})
}

// P1.4: Add and Mul turned round and grouped.
func TestTurnedAndGrouped(t *testing.T) {
	samples(func(a, b, c uint64) {
		for _, f := range []func(a, b uint64) uint64{wide.Add, wide.Mul} {
			if f(a, b) != f(b, a) {
				t.Fatalf("%d, %d: not the same turned round", a, b)
			}
			if f(f(a, b), c) != f(a, f(b, c)) {
				t.Fatalf("%d, %d, %d: not the same grouped otherwise", a, b, c)
			}
		}
	})
}

// P1.4: Floor is at most Ceil, and at most one less, where both are; and there is no Ceil without a Floor.
func TestFloorBesideCeil(t *testing.T) {
	samples(func(a, b, d uint64) {
		low, lowOk := wide.Floor(a, b, d)
		high, highOk := wide.Ceil(a, b, d)
		if highOk && !lowOk {
			t.Fatalf("%d, %d, %d: a Ceil and no Floor", a, b, d)
		}
		if lowOk && !highOk && low != most {
			t.Fatalf("%d, %d, %d: Floor %d and no Ceil", a, b, d, low)
		}
		if highOk && (low > high || high-low > 1) {
			t.Fatalf("%d, %d, %d: Floor %d, Ceil %d", a, b, d, low, high)
		}
	})
}
