package pair_test

import (
	"hash/fnv"
	"math"
	"math/bits"
	"slices"
	"strconv"
	"testing"

	"varve/api"
	"varve/pair"
)

const (
	minusZero = uint64(1 << 63)
	plusInf   = uint64(0x7ff0000000000000)
	minusInf  = uint64(0xfff0000000000000)
	quietNaN  = uint64(0x7ff8000000000001)
	most      = uint64(api.Most)
)

// draws are numbers without an order, the same ones for the same seed.
type draws uint64

func (d *draws) next() uint64 {
	*d = *d*6364136223846793005 + 1442695040888963407
	x := uint64(*d)
	return x ^ x>>29 ^ x<<17
}

// below is one from 0 to n - 1.
func (d *draws) below(n int) int {
	return int(d.next() % uint64(n))
}

// obs are n observations of every kind; few of them are unlike in all.
func (d *draws) obs(n int) []api.Obs {
	l := make([]api.Obs, n)
	for i := range l {
		l[i] = api.Obs{Value: d.next() >> d.below(64), Item: strconv.Itoa(d.below(40)), Bits: floats()[d.below(len(floats()))]}
		switch d.below(6) {
		case 0:
			l[i].Value, l[i].Item = 0, ""
		case 1:
			l[i].Value, l[i].Bits = most, d.next()
		}
	}
	return l
}

// floats are of every kind: numbers of either sign, the edges, NaNs.
func floats() []uint64 {
	var out []uint64
	for _, b := range []uint64{
		0, 1, 2, 0x000fffffffffffff, 0x0010000000000000, math.Float64bits(0.5), math.Float64bits(1), math.Float64bits(2.5), math.Float64bits(1e300), 0x7fefffffffffffff,
		plusInf, 0x7ff0000000000001, 0x7ff7ffffffffffff, 0x7ff8000000000000, quietNaN, 0x7fffffffffffffff,
	} {
		out = append(out, b, 1<<63|b)
	}
	return out
}

// unlike are n observations, from the first one on, of which no two are of one thing.
func unlike(first, n int) []api.Obs {
	l := make([]api.Obs, n)
	for i := range l {
		l[i] = api.Obs{Value: uint64(first + i), Item: "thing " + strconv.Itoa(first+i), Bits: math.Float64bits(float64(first + i))}
	}
	return l
}

// rise are n hashes that rise, from first on, each step after the one ahead.
func rise(n int, first, step uint64) []uint64 {
	l := make([]uint64, n)
	for i := range l {
		l[i] = first + step*uint64(i)
	}
	return l
}

// bucket is P7.1's words.
func bucket(v uint64) int {
	if v < 256 {
		return int(v)
	}
	e := bits.Len64(v) - 8
	return 128*e + int(v/(1<<e))
}

// number is P6.1's words, by the library.
func number(item string) uint64 {
	h := fnv.New64a()
	h.Write([]byte(item))
	return h.Sum64()
}

// held is a sum that is Most, if it would be more.
func held(a, b uint64) uint64 {
	if a > most-b {
		return most
	}
	return a + b
}

// ahead is P2.2's order in plain words: by the numbers; of noughts the one with the sign is first.
func ahead(a, b uint64) bool {
	return math.Float64frombits(a) < math.Float64frombits(b) || a == minusZero && b == 0
}

// known is what sketches know together, by the words of P7.2, P8.4 and P9.2 on all of them at once.
func known(l ...api.Sketch) api.Sketch {
	var out api.Sketch
	seen := map[int]uint64{}
	for _, s := range l {
		for _, one := range s.Hist {
			seen[one.At] = held(seen[one.At], one.N)
		}
		out.Hashes = append(out.Hashes, s.Hashes...)
		if s.Gauge.N > 0 && (out.Gauge.N == 0 || ahead(s.Gauge.Lo, out.Gauge.Lo)) {
			out.Gauge.Lo = s.Gauge.Lo
		}
		if s.Gauge.N > 0 && (out.Gauge.N == 0 || ahead(out.Gauge.Hi, s.Gauge.Hi)) {
			out.Gauge.Hi = s.Gauge.Hi
		}
		out.Gauge.N = held(out.Gauge.N, s.Gauge.N)
		out.Gauge.NaNs = held(out.Gauge.NaNs, s.Gauge.NaNs)
	}
	for at := range api.Buckets {
		if seen[at] > 0 {
			out.Hist = append(out.Hist, api.Bucket{At: at, N: seen[at]})
		}
	}
	slices.Sort(out.Hashes)
	out.Hashes = slices.Compact(out.Hashes)
	out.Hashes = out.Hashes[:min(len(out.Hashes), api.Least)]
	return out
}

// seen is what is known of observations, each one a sketch.
func seen(l ...api.Obs) api.Sketch {
	var each []api.Sketch
	for _, one := range l {
		s := api.Sketch{Hist: []api.Bucket{{At: bucket(one.Value), N: 1}}, Hashes: []uint64{number(one.Item)}, Gauge: api.Gauge{NaNs: 1}}
		if one.Bits&^(1<<63) <= plusInf {
			s.Gauge = api.Gauge{N: 1, Lo: one.Bits, Hi: one.Bits}
		}
		each = append(each, s)
	}
	return known(each...)
}

// equal is Same's words without Same.
func equal(a, b api.Sketch) bool {
	return slices.Equal(a.Hist, b.Hist) && slices.Equal(a.Hashes, b.Hashes) && a.Gauge == b.Gauge
}

// right are sketches that Check allows.
func right() []api.Sketch {
	d := draws(3)
	return []api.Sketch{
		{},
		{Hist: []api.Bucket{}, Hashes: []uint64{}},
		{Hist: []api.Bucket{{At: 5, N: 1}}},
		{Hist: []api.Bucket{{At: 0, N: most}, {At: 7423, N: 1}}},
		{Hist: []api.Bucket{{At: 0, N: 1}, {At: 1, N: 300}, {At: 2, N: most}, {At: 4, N: 1 << 63}}},
		{Hashes: []uint64{0}},
		{Hashes: []uint64{0, 1, 1 << 63, most}},
		{Hashes: rise(1023, 0, 1)},
		{Hashes: rise(1024, 500, 1)},
		{Hashes: rise(1024, 0, 1<<54)},
		{Gauge: api.Gauge{NaNs: 1}},
		{Gauge: api.Gauge{NaNs: most}},
		{Gauge: api.Gauge{N: 1}},
		{Gauge: api.Gauge{N: 1 << 63, NaNs: 1 << 63, Lo: minusZero}},
		{Gauge: api.Gauge{N: most, NaNs: 7, Lo: minusInf, Hi: plusInf}},
		{Hist: []api.Bucket{{At: 5, N: 2}, {At: 278, N: 1}}, Hashes: []uint64{5, 6, 9}},
		{Hist: []api.Bucket{{At: 5, N: most - 1}}, Gauge: api.Gauge{N: most - 1, NaNs: 1, Lo: 5, Hi: 6}},
		{Hashes: []uint64{7, 300}, Gauge: api.Gauge{N: 2, Lo: minusInf, Hi: 1}},
		{Hist: []api.Bucket{{At: 278, N: 1}}, Hashes: rise(1000, 9, 1<<40), Gauge: api.Gauge{N: 3, Lo: 1, Hi: plusInf}},
		seen(d.obs(1)...), seen(d.obs(2)...), seen(d.obs(30)...), seen(unlike(0, 1500)...),
	}
}

// wrong are sketches that Check does not allow, each for one part alone; the others of most are empty.
func wrong() []api.Sketch {
	var out []api.Sketch
	for _, l := range [][]api.Bucket{
		{{At: -1, N: 1}}, {{At: 7424, N: 1}}, {{At: math.MinInt, N: 1}}, {{At: math.MaxInt, N: 1}}, {{At: 5, N: 0}}, {{At: 5, N: 1}, {At: 5, N: 1}}, {{At: 6, N: 1}, {At: 5, N: 1}},
		{{At: 5, N: 1}, {At: 7, N: 0}},
	} {
		out = append(out, api.Sketch{Hist: l}, api.Sketch{Hist: l, Hashes: []uint64{5, 6}, Gauge: api.Gauge{N: 1, NaNs: 2, Lo: 3, Hi: 3}})
	}
	for _, l := range [][]uint64{{0, 0}, {most, most}, {2, 1}, {5, 6, 6}, {1, most, 0}, rise(1025, 0, 1), append(rise(1023, 0, 1), 1022)} {
		out = append(out, api.Sketch{Hashes: l}, api.Sketch{Hist: []api.Bucket{{At: 5, N: 1}}, Hashes: l, Gauge: api.Gauge{N: 1, NaNs: 2, Lo: 3, Hi: 3}})
	}
	for _, g := range []api.Gauge{
		{Lo: 1}, {Hi: 1}, {NaNs: 1, Lo: minusZero}, {NaNs: 2, Hi: quietNaN}, {N: 1, Lo: quietNaN, Hi: quietNaN}, {N: 1, Lo: 5, Hi: quietNaN}, {N: 1, Lo: 1<<63 | quietNaN, Hi: 5},
		{N: 1, Lo: 6, Hi: 5}, {N: 2, Lo: 0, Hi: minusZero}, {N: most, Lo: plusInf, Hi: minusInf},
	} {
		out = append(out, api.Sketch{Gauge: g}, api.Sketch{Hist: []api.Bucket{{At: 5, N: 1}}, Hashes: []uint64{5, 6}, Gauge: g})
	}
	return out
}

// is checks that a sketch is answered.
func is(t *testing.T, got api.Sketch, e api.Errno, want api.Sketch) {
	t.Helper()
	if !equal(got, want) || e != api.OK {
		t.Errorf("%v, %d, not %v", brief(got), e, brief(want))
	}
}

// invalid checks that a sketch is refused, with nothing beside the error.
func invalid(t *testing.T, got api.Sketch, e api.Errno) {
	t.Helper()
	if !equal(got, api.Sketch{}) || e != api.ErrInvalid {
		t.Errorf("%v, %d, not an error", brief(got), e)
	}
}

// brief is a sketch of which a few are told.
func brief(s api.Sketch) api.Sketch {
	s.Hist, s.Hashes = s.Hist[:min(len(s.Hist), 5)], s.Hashes[:min(len(s.Hashes), 5)]
	return s
}

func TestOfNone(t *testing.T) { // P10.1, the chapter's example
	for _, l := range [][]api.Obs{nil, {}, make([]api.Obs, 0, 5)} {
		if s := pair.Of(l); !equal(s, api.Sketch{}) || !pair.Empty(s) || !pair.Check(s) || !pair.Same(s, api.Sketch{}) {
			t.Error(s)
		}
	}
}

func TestOfFew(t *testing.T) { // P10.1: each one's Value once, Item, Bits
	a, none := uint64(0xaf63dc4c8601ec8c), uint64(0xcbf29ce484222325)
	for _, x := range []struct {
		l    []api.Obs
		want api.Sketch
	}{
		{[]api.Obs{{}}, api.Sketch{Hist: []api.Bucket{{At: 0, N: 1}}, Hashes: []uint64{none}, Gauge: api.Gauge{N: 1}}},
		{[]api.Obs{{Value: 300, Item: "a", Bits: minusZero}}, api.Sketch{Hist: []api.Bucket{{At: 278, N: 1}}, Hashes: []uint64{a}, Gauge: api.Gauge{N: 1, Lo: minusZero, Hi: minusZero}}},
		{[]api.Obs{{Value: 300, Item: "a", Bits: 9}, {Value: 300, Item: "a", Bits: 9}}, api.Sketch{Hist: []api.Bucket{{At: 278, N: 2}}, Hashes: []uint64{a}, Gauge: api.Gauge{N: 2, Lo: 9, Hi: 9}}},
		{[]api.Obs{{Value: most, Item: "", Bits: plusInf}, {Value: 0, Item: "a", Bits: minusInf}}, api.Sketch{Hist: []api.Bucket{{At: 0, N: 1}, {At: 7423, N: 1}}, Hashes: []uint64{a, none}, Gauge: api.Gauge{N: 2, Lo: minusInf, Hi: plusInf}}},
		{[]api.Obs{{Value: 301, Item: "a", Bits: quietNaN}, {Value: 300, Item: "a", Bits: 1<<63 | quietNaN}}, api.Sketch{Hist: []api.Bucket{{At: 278, N: 2}}, Hashes: []uint64{a}, Gauge: api.Gauge{NaNs: 2}}},
		{[]api.Obs{{Item: "a"}, {Item: "a", Bits: minusZero}, {Item: "a", Bits: quietNaN}}, api.Sketch{Hist: []api.Bucket{{At: 0, N: 3}}, Hashes: []uint64{a}, Gauge: api.Gauge{N: 2, NaNs: 1, Lo: minusZero}}},
	} {
		if got := pair.Of(x.l); !equal(got, x.want) || !pair.Check(got) || pair.Empty(got) {
			t.Errorf("Of(%v) = %v, not %v", x.l, got, x.want)
		}
	}
}

func TestOfItems(t *testing.T) { // P10.1: of any bytes, of any length; values and floats alike
	items := []string{"", "\x00", "\x00\x00", "a", "a\x00", "b", "ab", "ba", "\xff\xfe", "é", string(make([]byte, 256)), string(make([]byte, 257)), string(make([]byte, 100000)), "a", ""}
	var l []api.Obs
	for _, item := range items {
		l = append(l, api.Obs{Value: 7, Item: item, Bits: 7})
	}
	got := pair.Of(l)
	if len(got.Hashes) != len(items)-2 || !equal(got, seen(l...)) {
		t.Error(got)
	}
}

func TestOfFloats(t *testing.T) { // P10.1: each kind with each other one
	for _, x := range floats() {
		for _, y := range floats() {
			l := []api.Obs{{Bits: x}, {Bits: y}}
			if got := pair.Of(l).Gauge; got != seen(l...).Gauge {
				t.Errorf("Of %x, %x: %x", x, y, got)
			}
		}
	}
	var l []api.Obs
	for _, x := range floats() {
		l = append(l, api.Obs{Bits: x})
	}
	if got := pair.Of(l).Gauge; got != (api.Gauge{N: 22, NaNs: 10, Lo: minusInf, Hi: plusInf}) {
		t.Error(got)
	}
}

func TestOfManyItems(t *testing.T) { // P10.1: the least 1024 hashes, if there are more
	for _, n := range []int{1000, 1023, 1024, 1025, 1026, 3000} {
		l := unlike(0, n)
		got := pair.Of(l)
		if len(got.Hashes) != min(n, 1024) || !equal(got, seen(l...)) || !pair.Check(got) {
			t.Errorf("%d: %d hashes", n, len(got.Hashes))
		}
		if twice := pair.Of(append(l, l...)); !slices.Equal(twice.Hashes, got.Hashes) || twice.Gauge.N != 2*uint64(n) {
			t.Errorf("%d, each of them twice: %d hashes", n, len(twice.Hashes))
		}
	}
}

func TestOfAny(t *testing.T) { // P10.1
	d := draws(5)
	for range 2000 {
		l := d.obs(d.below(20))
		if got := pair.Of(l); !equal(got, seen(l...)) || !pair.Check(got) || pair.Empty(got) != (len(l) == 0) {
			t.Fatalf("Of(%v) = %v, not %v", l, got, seen(l...))
		}
	}
}

func TestCheck(t *testing.T) { // P10.1: each part by itself
	for _, s := range right() {
		if !pair.Check(s) {
			t.Errorf("%v may be", brief(s))
		}
	}
	for _, s := range wrong() {
		if pair.Check(s) {
			t.Errorf("%v may not be", brief(s))
		}
	}
	for _, a := range right() {
		for _, b := range wrong() {
			for _, s := range []api.Sketch{
				{Hist: b.Hist, Hashes: a.Hashes, Gauge: a.Gauge}, {Hist: a.Hist, Hashes: b.Hashes, Gauge: a.Gauge}, {Hist: a.Hist, Hashes: a.Hashes, Gauge: b.Gauge},
			} {
				parts := pair.Check(api.Sketch{Hist: s.Hist}) && pair.Check(api.Sketch{Hashes: s.Hashes}) && pair.Check(api.Sketch{Gauge: s.Gauge})
				if pair.Check(s) != parts {
					t.Errorf("Check of %v is %t", brief(s), !parts)
				}
			}
		}
	}
}

func TestMerge(t *testing.T) { // P10.1: part by part
	for _, a := range right() {
		for _, b := range right() {
			got, e := pair.Merge(a, b)
			is(t, got, e, known(a, b))
			if !pair.Check(got) {
				t.Errorf("%v may not be", brief(got))
			}
		}
	}
}

func TestMergeOfWrong(t *testing.T) { // P10.1, R2: on either side, each part in turn
	for i, bad := range wrong() {
		for _, good := range right() {
			got, e := pair.Merge(bad, good)
			invalid(t, got, e)
			got, e = pair.Merge(good, bad)
			invalid(t, got, e)
		}
		got, e := pair.Merge(bad, wrong()[(i+5)%len(wrong())])
		invalid(t, got, e)
		got, e = pair.Merge(bad, bad)
		invalid(t, got, e)
	}
}

func TestMergeWithNothing(t *testing.T) { // P10.1: on either side, on both
	for _, s := range right() {
		got, e := pair.Merge(s, api.Sketch{})
		is(t, got, e, s)
		got, e = pair.Merge(api.Sketch{}, s)
		is(t, got, e, s)
	}
	got, e := pair.Merge(api.Sketch{}, api.Sketch{})
	is(t, got, e, api.Sketch{})
	if !pair.Empty(got) {
		t.Error(got)
	}
}

func TestMergeHeld(t *testing.T) { // P10.1: counts whose sums pass 2^64 - 1
	part := func(n uint64) api.Sketch {
		return api.Sketch{Hist: []api.Bucket{{At: 5, N: n}, {At: 278, N: 1}}, Gauge: api.Gauge{N: n, NaNs: n, Lo: 1, Hi: 2}}
	}
	for _, x := range []struct{ a, b, want uint64 }{
		{most - 1, 1, most}, {most, 1, most}, {most - 1, 2, most}, {most, most, most}, {1 << 63, 1 << 63, most}, {1 << 63, 1<<63 - 1, most}, {1 << 63, 1<<63 - 2, most - 1},
	} {
		want := part(x.want)
		want.Hist[1].N = 2
		got, e := pair.Merge(part(x.a), part(x.b))
		is(t, got, e, want)
		got, e = pair.Merge(part(x.b), part(x.a))
		is(t, got, e, want)
	}
	s := api.Sketch{Hist: []api.Bucket{{At: 0, N: most}, {At: 7423, N: most}}, Gauge: api.Gauge{N: most, NaNs: most}}
	got, e := pair.Sum(s, s, s, s)
	is(t, got, e, s)
}

func TestMergeOfManyHashes(t *testing.T) { // P10.1: the least 1024 of both
	for _, x := range []struct{ a, b, want []uint64 }{
		{rise(1024, 0, 2), rise(1024, 1, 2), rise(1024, 0, 1)},
		{rise(1024, 1024, 1), rise(1024, 0, 1), rise(1024, 0, 1)},
		{rise(1024, 0, 1), rise(1024, 0, 1), rise(1024, 0, 1)},
		{rise(1024, 1, 1), []uint64{0}, rise(1024, 0, 1)},
		{rise(1023, 0, 1), []uint64{most - 1, most}, append(rise(1023, 0, 1), most-1)},
		{rise(1000, 0, 1), rise(24, 1000, 1), rise(1024, 0, 1)},
	} {
		got, e := pair.Merge(api.Sketch{Hashes: x.a}, api.Sketch{Hashes: x.b})
		is(t, got, e, api.Sketch{Hashes: x.want})
		got, e = pair.Merge(api.Sketch{Hashes: x.b}, api.Sketch{Hashes: x.a})
		is(t, got, e, api.Sketch{Hashes: x.want})
	}
}

func TestMergeTurnedAndGrouped(t *testing.T) { // P10.1: what P7.6, P8.4 and P9.4 say of its parts
	d := draws(11)
	some := right()
	for range 500 {
		a, b, c := some[d.below(len(some))], some[d.below(len(some))], some[d.below(len(some))]
		ab, e := pair.Merge(a, b)
		is(t, ab, e, known(a, b))
		ba, e := pair.Merge(b, a)
		is(t, ba, e, ab)
		bc, _ := pair.Merge(b, c)
		left, e := pair.Merge(ab, c)
		is(t, left, e, known(a, b, c))
		right, e := pair.Merge(a, bc)
		is(t, right, e, left)
		all, e := pair.Sum(c, a, b)
		is(t, all, e, left)
	}
}

func TestSum(t *testing.T) { // P10.1: of none, of one, of many
	got, e := pair.Sum()
	is(t, got, e, api.Sketch{})
	got, e = pair.Sum(nil...)
	is(t, got, e, api.Sketch{})
	got, e = pair.Sum([]api.Sketch{}...)
	is(t, got, e, api.Sketch{})
	for _, s := range right() {
		got, e = pair.Sum(s)
		is(t, got, e, s)
		got, e = pair.Sum(s, s, s)
		is(t, got, e, known(s, s, s))
	}
	all := right()
	for n := range all {
		got, e = pair.Sum(all[:n]...)
		is(t, got, e, known(all[:n]...))
		got, e = pair.Sum(all[n:]...)
		is(t, got, e, known(all[n:]...))
	}
	got, e = pair.Sum(make([]api.Sketch, 1000)...)
	is(t, got, e, api.Sketch{})
}

func TestSumOfWrong(t *testing.T) { // P10.1, R2: the only one, the first, one between, the last
	for _, bad := range wrong() {
		got, e := pair.Sum(bad)
		invalid(t, got, e)
		for _, l := range [][]api.Sketch{right(), make([]api.Sketch, 4)} {
			for _, at := range []int{0, 1, len(l) / 2, len(l) - 1} {
				l := slices.Clone(l)
				l[at] = bad
				got, e := pair.Sum(l...)
				invalid(t, got, e)
			}
		}
	}
}

func TestEmpty(t *testing.T) { // P10.1: no buckets, no hashes, N and NaNs 0
	for _, s := range []api.Sketch{{}, {Hist: []api.Bucket{}, Hashes: []uint64{}}, {Hist: make([]api.Bucket, 0, 3), Hashes: make([]uint64, 0, 3)}} {
		if !pair.Empty(s) {
			t.Errorf("%v is empty", s)
		}
	}
	for _, s := range []api.Sketch{
		{Gauge: api.Gauge{NaNs: 1}}, {Gauge: api.Gauge{NaNs: most}}, {Gauge: api.Gauge{N: 1}}, {Gauge: api.Gauge{N: most, Lo: minusInf, Hi: plusInf}},
		{Hist: []api.Bucket{{At: 0, N: 1}}}, {Hashes: []uint64{0}}, {Hashes: []uint64{most}}, pair.Of([]api.Obs{{}}), pair.Of([]api.Obs{{Bits: quietNaN}}),
	} {
		if pair.Empty(s) {
			t.Errorf("%v is not empty", s)
		}
	}
	for _, s := range right() {
		if pair.Empty(s) != equal(s, api.Sketch{}) {
			t.Errorf("%v: %t", brief(s), pair.Empty(s))
		}
	}
}

func TestEmptyOfWrong(t *testing.T) { // P10.1: the words are held against sketches that may not be too
	for _, s := range wrong() {
		want := len(s.Hist) == 0 && len(s.Hashes) == 0 && s.Gauge.N == 0 && s.Gauge.NaNs == 0
		if pair.Empty(s) != want {
			t.Errorf("%v: %t", brief(s), !want)
		}
	}
}

func TestSame(t *testing.T) { // P10.1: each with each other one; nil and an empty list are one
	all := append(right(), wrong()...)
	for i, a := range all {
		for j, b := range append(right(), wrong()...) {
			if pair.Same(a, b) != equal(a, b) || i == j && !pair.Same(a, b) {
				t.Errorf("%v and %v: %t", brief(a), brief(b), pair.Same(a, b))
			}
		}
	}
	if !pair.Same(api.Sketch{}, api.Sketch{Hist: []api.Bucket{}, Hashes: []uint64{}}) || !pair.Same(api.Sketch{Hist: []api.Bucket{}, Hashes: []uint64{}}, api.Sketch{}) {
		t.Error("nil and an empty list")
	}
}

func TestSameButForOnePart(t *testing.T) { // P10.1
	base := func() api.Sketch {
		return api.Sketch{Hist: []api.Bucket{{At: 5, N: 2}, {At: 278, N: 1}}, Hashes: []uint64{5, 6, 9}, Gauge: api.Gauge{N: 3, NaNs: 1, Lo: minusZero, Hi: 9}}
	}
	if !pair.Same(base(), base()) {
		t.Error("the same")
	}
	for i, change := range []func(*api.Sketch){
		func(s *api.Sketch) { s.Hist[0].N++ },
		func(s *api.Sketch) { s.Hist[1].At++ },
		func(s *api.Sketch) { s.Hist = s.Hist[:1] },
		func(s *api.Sketch) { s.Hist = nil },
		func(s *api.Sketch) { s.Hist = append(s.Hist, api.Bucket{At: 279, N: 1}) },
		func(s *api.Sketch) { s.Hashes[2]++ },
		func(s *api.Sketch) { s.Hashes = s.Hashes[:2] },
		func(s *api.Sketch) { s.Hashes = nil },
		func(s *api.Sketch) { s.Hashes = append(s.Hashes, 10) },
		func(s *api.Sketch) { s.Gauge.N++ },
		func(s *api.Sketch) { s.Gauge.NaNs++ },
		func(s *api.Sketch) { s.Gauge.Lo = 0 },
		func(s *api.Sketch) { s.Gauge.Hi++ },
	} {
		s := base()
		change(&s)
		if pair.Same(s, base()) || pair.Same(base(), s) {
			t.Errorf("change %d: %v", i, s)
		}
	}
}
