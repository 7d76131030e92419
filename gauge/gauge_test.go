package gauge_test

import (
	"math"
	"testing"

	"varve/api"
	"varve/gauge"
)

const (
	plusZero  = uint64(0)
	minusZero = uint64(1 << 63)
	plusInf   = uint64(0x7ff0000000000000)
	minusInf  = uint64(0xfff0000000000000)
	most      = uint64(api.Most)
)

// draws are numbers without an order, the same ones for the same seed.
type draws uint64

func (d *draws) next() uint64 {
	*d = *d*6364136223846793005 + 1442695040888963407
	x := uint64(*d)
	return x ^ x>>29 ^ x<<17
}

// below is one from 0 to n - 1.
func (d *draws) below(n int) int {
	return int(d.next() % uint64(n))
}

// float is one of any kind: an edge, a NaN, or any bits.
func (d *draws) float() uint64 {
	switch d.below(4) {
	case 0:
		return rising()[d.below(len(rising()))]
	case 1:
		return nans()[d.below(len(nans()))]
	}
	return d.next()
}

// rising are floats from the least one to the greatest one, all the edges among them.
func rising() []uint64 {
	out := []uint64{minusInf}
	above := []uint64{
		0, 1, 2, 0x000fffffffffffff, 0x0010000000000000, 0x0010000000000001, math.Float64bits(0.5), math.Float64bits(1), 0x3ff0000000000001,
		math.Float64bits(2.5), math.Float64bits(1e300), 0x7feffffffffffffe, 0x7fefffffffffffff,
	}
	for i := len(above) - 1; i >= 0; i-- {
		out = append(out, 1<<63|above[i])
	}
	return append(append(out, above...), plusInf)
}

// nans are of every kind, quiet ones and others, with either sign.
func nans() []uint64 {
	var out []uint64
	for _, b := range []uint64{
		0x7ff0000000000001, 0x7ff0000000000002, 0x7ff0000100000000, 0x7ff7ffffffffffff, 0x7ff8000000000000, 0x7ff8000000000001, 0x7ffc000000000000, 0x7fffffffffffffff,
	} {
		out = append(out, b, 1<<63|b)
	}
	return out
}

// ahead is P2.2's order in plain words: by the numbers; of noughts the one with the sign is first.
func ahead(a, b uint64) bool {
	x, y := math.Float64frombits(a), math.Float64frombits(b)
	return x < y || a == minusZero && b == plusZero
}

func isNaN(b uint64) bool {
	return b&^(1<<63) > plusInf
}

// slow is what is known of floats, by P9.1's words on all of them at once.
func slow(floats ...uint64) api.Gauge {
	var g api.Gauge
	for _, b := range floats {
		if isNaN(b) {
			g.NaNs++
			continue
		}
		if g.N == 0 || ahead(b, g.Lo) {
			g.Lo = b
		}
		if g.N == 0 || ahead(g.Hi, b) {
			g.Hi = b
		}
		g.N++
	}
	return g
}

// added is the same, float by float.
func added(floats ...uint64) api.Gauge {
	var g api.Gauge
	for _, b := range floats {
		g = gauge.Add(g, b)
	}
	return g
}

// right are gauges that Check allows.
func right() []api.Gauge {
	var out []api.Gauge
	for _, nans := range []uint64{0, 1, 2, 127, 128, 1 << 63, most - 1, most} {
		out = append(out, api.Gauge{NaNs: nans})
		for _, n := range []uint64{1, 2, 127, 128, 1 << 63, most - 1, most} {
			out = append(out, api.Gauge{N: n, NaNs: nans, Lo: minusZero, Hi: plusZero}, api.Gauge{N: n, NaNs: nans, Lo: minusInf, Hi: plusInf}, api.Gauge{N: n, NaNs: nans})
		}
	}
	all := rising()
	for i, lo := range all {
		for _, hi := range all[i:] {
			out = append(out, api.Gauge{N: 3, NaNs: uint64(i), Lo: lo, Hi: hi})
		}
	}
	return out
}

// wrong are gauges that Check does not allow.
func wrong() []api.Gauge {
	var out []api.Gauge
	for _, many := range []uint64{0, 1, most} {
		for _, b := range append(rising(), nans()...) {
			if b != 0 {
				out = append(out, api.Gauge{NaNs: many, Lo: b}, api.Gauge{NaNs: many, Hi: b}, api.Gauge{NaNs: many, Lo: b, Hi: b})
			}
		}
	}
	for _, n := range []uint64{1, 2, most} {
		for _, b := range nans() {
			for _, x := range append(rising(), b) {
				out = append(out, api.Gauge{N: n, Lo: b, Hi: x}, api.Gauge{N: n, Lo: x, Hi: b, NaNs: 5})
			}
		}
		for i, lo := range rising() {
			for _, hi := range rising()[:i] {
				out = append(out, api.Gauge{N: n, Lo: lo, Hi: hi})
			}
		}
	}
	return out
}

func TestExamples(t *testing.T) { // the chapter's
	g := gauge.Add(gauge.Add(api.Gauge{}, minusZero), plusZero)
	if g.Lo != minusZero || g.Hi != plusZero {
		t.Error(g)
	}
	if g = gauge.Add(g, nans()[0]); g.NaNs != 1 {
		t.Error(g)
	}
}

func TestCheck(t *testing.T) { // P9.1
	for _, g := range right() {
		if !gauge.Check(g) {
			t.Errorf("Check(%x) = false", g)
		}
	}
	for _, g := range wrong() {
		if gauge.Check(g) {
			t.Errorf("Check(%x) = true", g)
		}
	}
}

func TestCheckOfAny(t *testing.T) { // P9.1: by its words, with the order told by numbers
	d := draws(3)
	for range 100000 {
		g := api.Gauge{N: d.next() >> d.below(65), NaNs: d.next() >> d.below(65), Lo: d.float(), Hi: d.float()}
		want := !isNaN(g.Lo) && !isNaN(g.Hi) && !ahead(g.Hi, g.Lo)
		if g.N == 0 {
			want = g.Lo == 0 && g.Hi == 0
		}
		if gauge.Check(g) != want {
			t.Fatalf("Check(%x) = %t", g, !want)
		}
	}
}

func TestAddOfOne(t *testing.T) { // P9.1: to an empty gauge, whatever it is
	for _, b := range rising() {
		for _, many := range []uint64{0, 1, most} {
			if got, want := gauge.Add(api.Gauge{NaNs: many}, b), (api.Gauge{N: 1, NaNs: many, Lo: b, Hi: b}); got != want {
				t.Errorf("Add of %x = %x", b, got)
			}
		}
	}
}

func TestAddOfTwo(t *testing.T) { // P9.1: in either order; the least, the greatest, noughts, infinities
	all := rising()
	for i, lo := range all {
		for _, hi := range all[i:] {
			want := api.Gauge{N: 2, Lo: lo, Hi: hi}
			if got := added(lo, hi); got != want {
				t.Errorf("Add of %x, %x = %x", lo, hi, got)
			}
			if got := added(hi, lo); got != want {
				t.Errorf("Add of %x, %x = %x", hi, lo, got)
			}
		}
	}
}

func TestAddOfNaN(t *testing.T) { // P9.1: to an empty gauge, and to one that is not; it stays at 2^64 - 1
	for _, g := range right() {
		for _, b := range nans() {
			want := g
			if want.NaNs != most {
				want.NaNs++
			}
			if got := gauge.Add(g, b); got != want {
				t.Fatalf("Add(%x, %x) = %x", g, b, got)
			}
		}
	}
	if g := added(nans()...); g != (api.Gauge{NaNs: 16}) {
		t.Error(g)
	}
}

func TestAddAtTheMost(t *testing.T) { // P9.1: N at 2^64 - 2 and at 2^64 - 1, where it stays, with the ends still told
	g := api.Gauge{N: most - 2, Lo: 5, Hi: 6}
	for _, x := range []struct {
		add  uint64
		want api.Gauge
	}{
		{5, api.Gauge{N: most - 1, Lo: 5, Hi: 6}},
		{7, api.Gauge{N: most, Lo: 5, Hi: 7}},
		{6, api.Gauge{N: most, Lo: 5, Hi: 7}},
		{minusInf, api.Gauge{N: most, Lo: minusInf, Hi: 7}},
		{plusInf, api.Gauge{N: most, Lo: minusInf, Hi: plusInf}},
		{nans()[3], api.Gauge{N: most, NaNs: 1, Lo: minusInf, Hi: plusInf}},
	} {
		if g = gauge.Add(g, x.add); g != x.want {
			t.Errorf("Add of %x = %x", x.add, g)
		}
	}
	for _, x := range [][2]uint64{{most - 3, most - 2}, {most - 2, most - 1}, {most - 1, most}, {most, most}} {
		if got, want := gauge.Add(api.Gauge{N: 1, NaNs: x[0]}, nans()[0]), (api.Gauge{N: 1, NaNs: x[1]}); got != want {
			t.Errorf("NaNs %x and one more: %x", x[0], got)
		}
	}
}

func TestAddOfMany(t *testing.T) { // P9.1: behind each float it is what all so far tell
	d := draws(5)
	for range 300 {
		var came []uint64
		var g api.Gauge
		for range d.below(40) {
			b := d.float()
			came = append(came, b)
			if g = gauge.Add(g, b); g != slow(came...) || !gauge.Check(g) {
				t.Fatalf("Add of %x = %x, not %x", came, g, slow(came...))
			}
		}
	}
}

func TestMerge(t *testing.T) { // P9.2
	for _, x := range []struct{ a, b, want api.Gauge }{
		{},
		{api.Gauge{NaNs: 3}, api.Gauge{}, api.Gauge{NaNs: 3}},
		{api.Gauge{NaNs: 3}, api.Gauge{NaNs: 4}, api.Gauge{NaNs: 7}},
		{api.Gauge{N: 2, Lo: 5, Hi: 6}, api.Gauge{}, api.Gauge{N: 2, Lo: 5, Hi: 6}},
		{api.Gauge{N: 2, NaNs: 1, Lo: 5, Hi: 6}, api.Gauge{NaNs: 8}, api.Gauge{N: 2, NaNs: 9, Lo: 5, Hi: 6}},
		{api.Gauge{N: 2, Lo: minusInf, Hi: minusZero}, api.Gauge{}, api.Gauge{N: 2, Lo: minusInf, Hi: minusZero}},
		{api.Gauge{N: 2, Lo: 5, Hi: 6}, api.Gauge{N: 3, Lo: 1, Hi: 9}, api.Gauge{N: 5, Lo: 1, Hi: 9}},
		{api.Gauge{N: 2, Lo: 5, Hi: 6}, api.Gauge{N: 3, Lo: 6, Hi: 9}, api.Gauge{N: 5, Lo: 5, Hi: 9}},
		{api.Gauge{N: 1, Lo: minusZero, Hi: minusZero}, api.Gauge{N: 1}, api.Gauge{N: 2, Lo: minusZero}},
		{api.Gauge{N: 1, Lo: minusInf, Hi: minusInf}, api.Gauge{N: 1, Lo: plusInf, Hi: plusInf}, api.Gauge{N: 2, Lo: minusInf, Hi: plusInf}},
		{api.Gauge{N: most, Lo: 5, Hi: 6}, api.Gauge{N: 1, Lo: 7, Hi: 7}, api.Gauge{N: most, Lo: 5, Hi: 7}},
		{api.Gauge{N: most - 1, Lo: 5, Hi: 6}, api.Gauge{N: 1, Lo: 7, Hi: 7}, api.Gauge{N: most, Lo: 5, Hi: 7}},
		{api.Gauge{N: most, NaNs: most, Lo: 5, Hi: 6}, api.Gauge{N: most, NaNs: most, Lo: 5, Hi: 6}, api.Gauge{N: most, NaNs: most, Lo: 5, Hi: 6}},
		{api.Gauge{N: 1 << 63, NaNs: 1<<63 - 1, Lo: 5, Hi: 6}, api.Gauge{N: 1 << 63, NaNs: 1 << 63, Lo: 5, Hi: 6}, api.Gauge{N: most, NaNs: most, Lo: 5, Hi: 6}},
		{api.Gauge{NaNs: most - 1}, api.Gauge{NaNs: 5}, api.Gauge{NaNs: most}},
	} {
		if got := gauge.Merge(x.a, x.b); got != x.want {
			t.Errorf("Merge(%x, %x) = %x", x.a, x.b, got)
		}
		if got := gauge.Merge(x.b, x.a); got != x.want {
			t.Errorf("Merge(%x, %x) = %x", x.b, x.a, got)
		}
	}
}

func TestMergeWithNothing(t *testing.T) { // P9.2: an empty gauge on either side
	for _, g := range right() {
		if gauge.Merge(g, api.Gauge{}) != g || gauge.Merge(api.Gauge{}, g) != g {
			t.Errorf("%x with nothing: %x, %x", g, gauge.Merge(g, api.Gauge{}), gauge.Merge(api.Gauge{}, g))
		}
	}
}

func TestMergeOfEdges(t *testing.T) { // P9.2: each edge with each other one at either end
	all := rising()
	for i, lo := range all {
		for j, hi := range all[i:] {
			a := api.Gauge{N: 2, NaNs: 1, Lo: lo, Hi: hi}
			for k, one := range all {
				b := api.Gauge{N: 1, Lo: one, Hi: one}
				want := api.Gauge{N: 3, NaNs: 1, Lo: all[min(i, k)], Hi: all[max(i+j, k)]}
				if gauge.Merge(a, b) != want || gauge.Merge(b, a) != want {
					t.Fatalf("%x with %x: %x, %x", a, b, gauge.Merge(a, b), gauge.Merge(b, a))
				}
			}
		}
	}
}

func TestMergeIsAddOfAll(t *testing.T) { // P9.2: what both know
	d := draws(7)
	for range 20000 {
		a, b := make([]uint64, d.below(5)), make([]uint64, d.below(5))
		for i := range a {
			a[i] = d.float()
		}
		for i := range b {
			b[i] = d.float()
		}
		want := slow(append(append([]uint64{}, a...), b...)...)
		if got := gauge.Merge(added(a...), added(b...)); got != want || !gauge.Check(got) {
			t.Fatalf("%x with %x: %x, not %x", a, b, got, want)
		}
	}
}

func TestMergeTurnedAndGrouped(t *testing.T) { // P9.4
	d := draws(11)
	some := right()
	for range 100000 {
		a, b, c := some[d.below(len(some))], some[d.below(len(some))], some[d.below(len(some))]
		if gauge.Merge(a, b) != gauge.Merge(b, a) {
			t.Fatalf("%x with %x turned round: %x, %x", a, b, gauge.Merge(a, b), gauge.Merge(b, a))
		}
		left, right := gauge.Merge(gauge.Merge(a, b), c), gauge.Merge(a, gauge.Merge(b, c))
		if left != right || !gauge.Check(left) {
			t.Fatalf("%x, %x, %x grouped: %x, %x", a, b, c, left, right)
		}
	}
}

func TestWrongOnesAreTaken(t *testing.T) { // R1: Add and Merge end at all arguments
	for i, g := range wrong() {
		gauge.Merge(g, wrong()[i%7])
		gauge.Merge(right()[i%9], g)
		gauge.Put(nil, g)
		for _, b := range []uint64{0, minusZero, plusInf, nans()[0]} {
			gauge.Add(g, b)
		}
	}
}
