package flo_test

import (
	"math"
	"math/big"
	"testing"

	"varve/api"
	"varve/flo"
)

const (
	minus    = uint64(1) << 63
	inf      = uint64(0x7ff0000000000000)
	greatest = uint64(0x7fefffffffffffff)
	normal   = uint64(0x0010000000000000)
	theNaN   = uint64(0x7ff8000000000001)
)

func bits(f float64) uint64 { return math.Float64bits(f) }

// ordered are floats from the first to the last: those at which something turns, and their neighbours.
var ordered = []uint64{
	minus | inf, minus | greatest, minus | (greatest - 1),
	bits(-0x1p64), bits(-0x1p53), bits(-2.5), bits(-1), bits(-0.5),
	minus | (normal + 1), minus | normal, minus | (normal - 1), minus | 2, minus | 1, minus,
	0, 1, 2, normal - 1, normal, normal + 1,
	bits(0.5), 0x3fefffffffffffff, bits(1), 0x3ff0000000000001, bits(2.5), bits(0x1p53 - 1), bits(0x1p53),
	bits(0x1p63), 0x43efffffffffffff, bits(0x1p64), 0x43f0000000000001,
	greatest - 1, greatest, inf,
}

// nans are quiet and signalling ones of either sign, the first and the last by their bits.
var nans = []uint64{inf + 1, theNaN, 0x7ff8000000000000, 0x7ff7ffffffffffff, minus - 1, minus | (inf + 1), minus | theNaN, 0xfff8000000000000, api.Most}

// all are the floats above, and all NaNs.
func all() []uint64 { return append(append([]uint64{}, ordered...), nans...) }

// mixer tells bits of floats of all sizes, the same ones in each run.
type mixer uint64

func (m *mixer) next() uint64 {
	*m += 0x9e3779b97f4a7c15
	x := uint64(*m)
	x = (x ^ x>>30) * 0xbf58476d1ce4e5b9
	x = (x ^ x>>27) * 0x94d049bb133111eb
	return x ^ x>>31
}

// near tells bits of which many have exponents close to each other.
func (m *mixer) near() uint64 {
	x := m.next()
	if x&7 == 0 {
		return m.next()
	}
	return m.next()&(minus|1<<52-1) | (1000+m.next()%72)<<52
}

// ranged is a number of any width.
func (m *mixer) ranged() uint64 { return m.next() >> (m.next() & 63) }

func isNaN(b uint64) bool { return b&^minus > inf }

// P2.1: what a float is, by its exponent and fraction.
func TestKind(t *testing.T) {
	for _, x := range []struct {
		b    uint64
		kind int
	}{
		{0, flo.Zero}, {minus, flo.Zero},
		{1, flo.Tiny}, {minus | 1, flo.Tiny}, {normal - 1, flo.Tiny}, {minus | (normal - 1), flo.Tiny},
		{normal, flo.Normal}, {minus | normal, flo.Normal}, {bits(1), flo.Normal}, {bits(-2.5), flo.Normal},
		{greatest, flo.Normal}, {minus | greatest, flo.Normal},
		{inf, flo.Inf}, {minus | inf, flo.Inf},
		{inf + 1, flo.NaN}, {minus | (inf + 1), flo.NaN}, {theNaN, flo.NaN}, {minus - 1, flo.NaN}, {api.Most, flo.NaN},
	} {
		if got := flo.Kind(x.b); got != x.kind {
			t.Errorf("Kind(%x) = %d, want %d", x.b, got, x.kind)
		}
	}
	m := mixer(1)
	for range 100000 {
		b := m.next()
		if m.next()&3 == 0 {
			b &= minus | 1<<52 - 1
		}
		if m.next()&3 == 0 {
			b |= inf
		}
		if got, want := flo.Kind(b), kindByFields(b); got != want {
			t.Fatalf("Kind(%x) = %d, want %d", b, got, want)
		}
	}
}

func kindByFields(b uint64) int {
	exponent, rest := b>>52&0x7ff, b&(1<<52-1)
	switch {
	case exponent == 0x7ff && rest != 0:
		return flo.NaN
	case exponent == 0x7ff:
		return flo.Inf
	case exponent != 0:
		return flo.Normal
	case rest != 0:
		return flo.Tiny
	}
	return flo.Zero
}

// P2.1: the constants are the chapter's.
func TestConstants(t *testing.T) {
	if flo.Zero != 0 || flo.Normal != 1 || flo.Tiny != 2 || flo.Inf != 3 || flo.NaN != 4 {
		t.Error("kinds")
	}
	if flo.Fits != 0 || flo.Below != 1 || flo.Above != 2 || flo.None != 3 {
		t.Error("what became of units")
	}
}

// P2.1: with the sign all bits the other way, without it the sign's bit; Of undoes it, at all bits.
func TestKeyOf(t *testing.T) {
	for _, x := range [][2]uint64{
		{0, minus}, {minus, minus - 1}, {1, minus | 1}, {minus | 1, minus - 2},
		{inf, 0xfff0000000000000}, {minus | inf, 0x000fffffffffffff},
		{bits(1), 0xbff0000000000000}, {bits(-1), 0x400fffffffffffff},
		{minus - 1, api.Most}, {api.Most, 0}, {theNaN, 0xfff8000000000001}, {minus | theNaN, 0x0007fffffffffffe},
	} {
		if got := flo.Key(x[0]); got != x[1] {
			t.Errorf("Key(%x) = %x, want %x", x[0], got, x[1])
		}
		if got := flo.Of(x[1]); got != x[0] {
			t.Errorf("Of(%x) = %x, want %x", x[1], got, x[0])
		}
	}
	m := mixer(2)
	for range 100000 {
		b := m.next()
		if flo.Of(flo.Key(b)) != b || flo.Key(flo.Of(b)) != b {
			t.Fatalf("Of and Key of %x: %x, %x", b, flo.Of(flo.Key(b)), flo.Key(flo.Of(b)))
		}
	}
}

// P2.2: the order of all floats, and none with a NaN. P2.5: Key rises with Less.
func TestLess(t *testing.T) {
	for i, a := range ordered {
		for k, b := range ordered {
			if got := flo.Less(a, b); got != (i < k) {
				t.Errorf("Less(%x, %x) = %v", a, b, got)
			}
			if (flo.Key(a) < flo.Key(b)) != (i < k) {
				t.Errorf("Key of %x and %x: %x, %x", a, b, flo.Key(a), flo.Key(b))
			}
		}
	}
	for _, n := range nans {
		for _, b := range all() {
			if flo.Less(n, b) || flo.Less(b, n) {
				t.Errorf("Less of NaN %x and %x", n, b)
			}
		}
	}
	m := mixer(3)
	for range 100000 {
		a, b := m.near(), m.near()
		if isNaN(a) || isNaN(b) {
			continue
		}
		x, y := math.Float64frombits(a), math.Float64frombits(b)
		if flo.Less(a, b) != (x < y) || flo.Less(b, a) != (y < x) {
			t.Fatalf("Less(%x, %x) = %v, the other way %v", a, b, flo.Less(a, b), flo.Less(b, a))
		}
		if flo.Less(a, b) != (flo.Key(a) < flo.Key(b)) {
			t.Fatalf("Less and Key of %x, %x", a, b)
		}
	}
}

// P2.2: the first one behind, and what has none is its own.
func TestNext(t *testing.T) {
	for _, x := range [][2]uint64{
		{minus | inf, minus | greatest}, {minus | greatest, minus | (greatest - 1)},
		{minus | normal, minus | (normal - 1)}, {minus | 2, minus | 1}, {minus | 1, minus}, {minus, 0}, {0, 1}, {1, 2},
		{normal - 1, normal}, {0x3fefffffffffffff, bits(1)}, {bits(1), 0x3ff0000000000001},
		{bits(-1), 0xbfefffffffffffff}, {greatest, inf}, {inf, inf},
	} {
		if got := flo.Next(x[0]); got != x[1] {
			t.Errorf("Next(%x) = %x, want %x", x[0], got, x[1])
		}
	}
	for _, n := range nans {
		if got := flo.Next(n); got != n {
			t.Errorf("Next of NaN %x = %x", n, got)
		}
	}
	m := mixer(4)
	for range 100000 {
		b := m.near()
		if isNaN(b) || b&^minus == 0 || b == inf {
			continue
		}
		want := bits(math.Nextafter(math.Float64frombits(b), math.Inf(1)))
		if got := flo.Next(b); got != want || !flo.Less(b, got) || flo.Key(got) != flo.Key(b)+1 {
			t.Fatalf("Next(%x) = %x, want %x", b, got, want)
		}
	}
}

// P2.3: the edges that the chapter names.
func TestUnits(t *testing.T) {
	for _, x := range []struct {
		b     uint64
		shift int
		v     uint64
		how   int
	}{
		{bits(2.5), 1, 5, flo.Fits}, {bits(2.5), 0, 2, flo.Fits}, {bits(2.5), -1, 1, flo.Fits}, {bits(2.5), -2, 0, flo.Fits},
		{bits(-0.5), 0, 0, flo.Below}, {minus | 1, -2000, 0, flo.Below}, {minus | 1, 2000, 0, flo.Below},
		{minus | inf, 0, 0, flo.Below}, {minus | greatest, -2000, 0, flo.Below},
		{minus, 7, 0, flo.Fits}, {minus, 2000, 0, flo.Fits}, {minus, math.MinInt, 0, flo.Fits},
		{0, 0, 0, flo.Fits}, {0, 2000, 0, flo.Fits}, {0, math.MaxInt, 0, flo.Fits},
		{bits(1), 63, 1 << 63, flo.Fits}, {bits(1), 64, api.Most, flo.Above}, {bits(1), -1, 0, flo.Fits},
		{0x43efffffffffffff, 0, 1<<64 - 1<<11, flo.Fits}, {bits(0x1p64), 0, api.Most, flo.Above}, {0x43f0000000000001, 0, api.Most, flo.Above},
		{bits(0x1p64), -1, 1 << 63, flo.Fits}, {bits(0x1p53), 10, 1 << 63, flo.Fits}, {bits(0x1p53), 11, api.Most, flo.Above},
		{1, 1074, 1, flo.Fits}, {1, 1073, 0, flo.Fits}, {1, 1137, 1 << 63, flo.Fits}, {1, 1138, api.Most, flo.Above},
		{1, 1999, api.Most, flo.Above}, {1, 2000, api.Most, flo.Above}, {1, 2001, api.Most, flo.Above}, {1, math.MaxInt, api.Most, flo.Above},
		{1, -2000, 0, flo.Fits}, {1, math.MinInt, 0, flo.Fits}, {normal - 1, 1074, 1<<52 - 1, flo.Fits}, {normal, 1074, 1 << 52, flo.Fits},
		{normal - 1, 1086, 1<<64 - 1<<12, flo.Fits}, {normal - 1, 1087, api.Most, flo.Above},
		{normal, 1085, 1 << 63, flo.Fits}, {normal, 1086, api.Most, flo.Above},
		{greatest, -1023, 1, flo.Fits}, {greatest, -1024, 0, flo.Fits}, {greatest, -960, 1<<64 - 1<<11, flo.Fits}, {greatest, -959, api.Most, flo.Above},
		{greatest, -1999, 0, flo.Fits}, {greatest, -2000, 0, flo.Fits}, {greatest, -2001, 0, flo.Fits}, {greatest, math.MinInt, 0, flo.Fits}, {greatest, math.MaxInt, api.Most, flo.Above},
		{inf, 0, api.Most, flo.Above}, {inf, -2000, api.Most, flo.Above}, {inf, math.MinInt, api.Most, flo.Above},
	} {
		if v, how := flo.Units(x.b, x.shift); v != x.v || how != x.how {
			t.Errorf("Units(%x, %d) = %d, %d, want %d, %d", x.b, x.shift, v, how, x.v, x.how)
		}
	}
	for _, n := range nans {
		for _, shift := range []int{math.MinInt, -1, 0, 1, math.MaxInt} {
			if v, how := flo.Units(n, shift); v != 0 || how != flo.None {
				t.Errorf("Units(%x, %d) = %d, %d", n, shift, v, how)
			}
		}
	}
}

// P2.3: at all floats and shifts it is what exact numbers come to.
func TestUnitsExactly(t *testing.T) {
	check := func(b uint64, shift int) {
		v, how := flo.Units(b, shift)
		wantV, wantHow := exactUnits(b, shift)
		if v != wantV || how != wantHow {
			t.Fatalf("Units(%x, %d) = %d, %d, want %d, %d", b, shift, v, how, wantV, wantHow)
		}
	}
	shifts := []int{math.MinInt, -99999, -2001, -2000, -1999, 1999, 2000, 2001, 99999, math.MaxInt}
	for shift := -1140; shift <= 1140; shift += 3 {
		shifts = append(shifts, shift)
	}
	for _, b := range ordered {
		for _, shift := range shifts {
			check(b, shift)
		}
	}
	m := mixer(5)
	for range 20000 {
		check(m.near(), int(m.next()%200)-100)
		b := m.next() &^ minus
		check(b, 1086-int(b>>52)+int(m.next()%80)-70)
	}
}

// exactUnits works with whole numbers of any size.
func exactUnits(b uint64, shift int) (uint64, int) {
	f := math.Float64frombits(b)
	switch {
	case f != f:
		return 0, flo.None
	case f < 0:
		return 0, flo.Below
	case f > math.MaxFloat64:
		return api.Most, flo.Above
	}
	shift = min(max(shift, -2000), 2000)
	// Times 2^1074 every float is whole.
	v, _ := new(big.Float).SetMantExp(new(big.Float).SetFloat64(f), 1074).Int(nil)
	if shift > 0 {
		v.Lsh(v, uint(shift))
	} else {
		v.Rsh(v, uint(-shift))
	}
	v.Rsh(v, 1074)
	if !v.IsUint64() {
		return api.Most, flo.Above
	}
	return v.Uint64(), flo.Fits
}

// P2.4: the nearest, of two as near the even one. P2.5: Units undoes it up to 2^53.
func TestFrom(t *testing.T) {
	for _, x := range []struct {
		v uint64
		f float64
	}{
		{0, 0}, {1, 1}, {2, 2}, {3, 3}, {12345, 12345}, {1<<53 - 1, 0x1p53 - 1}, {1 << 53, 0x1p53},
		{1<<53 + 1, 0x1p53}, {1<<53 + 2, 0x1p53 + 2}, {1<<53 + 3, 0x1p53 + 4}, {1<<53 + 5, 0x1p53 + 4},
		{1<<54 - 1, 0x1p54}, {1<<54 + 2, 0x1p54}, {1<<54 + 3, 0x1p54 + 4}, {1<<54 + 6, 0x1p54 + 8},
		{1<<63 - 1, 0x1p63}, {1<<63 - 512, 0x1p63}, {1<<63 - 513, 0x1p63 - 1024}, {1 << 63, 0x1p63}, {1<<63 + 1024, 0x1p63},
		{1<<63 + 1025, 0x1p63 + 2048}, {1<<63 + 3072, 0x1p63 + 4096},
		{api.Most, 0x1p64}, {api.Most - 1023, 0x1p64}, {api.Most - 1024, 0x1p64 - 2048},
	} {
		if got := flo.From(x.v); got != bits(x.f) {
			t.Errorf("From(%d) = %x, want %x", x.v, got, bits(x.f))
		}
	}
	m := mixer(6)
	for range 100000 {
		v := m.ranged()
		exact, _ := new(big.Float).SetPrec(64).SetUint64(v).Float64()
		if got := flo.From(v); got != bits(exact) {
			t.Fatalf("From(%d) = %x, want %x", v, got, bits(exact))
		}
		v %= 1<<53 + 1
		if back, how := flo.Units(flo.From(v), 0); back != v || how != flo.Fits {
			t.Fatalf("Units of From(%d) = %d, %d", v, back, how)
		}
	}
	for _, v := range []uint64{0, 1, 2, 1<<52 - 1, 1 << 52, 1<<52 + 1, 1<<53 - 1, 1 << 53} {
		if back, how := flo.Units(flo.From(v), 0); back != v || how != flo.Fits {
			t.Errorf("Units of From(%d) = %d, %d", v, back, how)
		}
	}
}

// P2.4: sums at the edges.
func TestAdd(t *testing.T) {
	for _, x := range [][3]uint64{
		{bits(1), bits(2), bits(3)}, {bits(0.5), bits(-2.5), bits(-2)}, {bits(0.1), bits(0.2), 0x3fd3333333333334},
		{0, 0, 0}, {minus, minus, minus}, {minus, 0, 0}, {minus, bits(1), bits(1)}, {0, bits(-1), bits(-1)}, {0, minus | 1, minus | 1},
		{bits(1), bits(-1), 0}, {1, minus | 1, 0}, {normal, minus | normal, 0}, {greatest, minus | greatest, 0},
		{1, 1, 2}, {normal - 1, 1, normal}, {normal, minus | 1, normal - 1}, {minus | (normal - 1), minus | 1, minus | normal},
		{bits(0x1p53), bits(1), bits(0x1p53)}, {bits(0x1p53 + 2), bits(1), bits(0x1p53 + 4)}, {bits(-0x1p53 - 2), bits(-1), bits(-0x1p53 - 4)},
		{bits(1), bits(0x1p-53), bits(1)}, {0x3ff0000000000001, bits(0x1p-53), 0x3ff0000000000002}, {bits(1), bits(-0x1p-54), bits(1)}, {bits(2), bits(-0x1p-54), bits(2)},
		{greatest, greatest, inf}, {minus | greatest, minus | greatest, minus | inf},
		{greatest, bits(0x1p970), inf}, {greatest, bits(0x1p969), greatest}, {minus | greatest, bits(-0x1p970), minus | inf},
		{inf, inf, inf}, {minus | inf, minus | inf, minus | inf}, {inf, minus | greatest, inf}, {minus | inf, greatest, minus | inf}, {inf, 0, inf},
		{inf, minus | inf, theNaN},
	} {
		if got := flo.Add(x[0], x[1]); got != x[2] {
			t.Errorf("Add(%x, %x) = %x, want %x", x[0], x[1], got, x[2])
		}
		if got := flo.Add(x[1], x[0]); got != x[2] {
			t.Errorf("Add(%x, %x) = %x, want %x", x[1], x[0], got, x[2])
		}
	}
	for _, n := range nans {
		for _, b := range all() {
			if flo.Add(n, b) != theNaN || flo.Add(b, n) != theNaN {
				t.Errorf("Add of NaN %x and %x: %x, %x", n, b, flo.Add(n, b), flo.Add(b, n))
			}
		}
	}
}

// P2.4: at all finite floats the sum is the exact one, rounded once.
func TestAddExactly(t *testing.T) {
	check := func(a, b uint64) {
		x, y := math.Float64frombits(a), math.Float64frombits(b)
		if x-x != 0 || y-y != 0 {
			return
		}
		sum := new(big.Float).SetPrec(2200).SetFloat64(x)
		sum.Add(sum, new(big.Float).SetFloat64(y))
		f, _ := sum.Float64()
		if got := flo.Add(a, b); got != bits(f) {
			t.Fatalf("Add(%x, %x) = %x, want %x", a, b, got, bits(f))
		}
	}
	for _, a := range ordered {
		for _, b := range ordered {
			check(a, b)
		}
	}
	m := mixer(7)
	for range 30000 {
		check(m.near(), m.near())
		a := m.next()
		check(a, a^minus^m.ranged()>>10)
		check(a&(minus|1<<54-1), m.next()&(minus|1<<54-1))
	}
}
