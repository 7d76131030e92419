package kmv_test

import (
	"math/big"
	"slices"
	"strconv"
	"testing"

	"varve/api"
	"varve/fnv"
	"varve/kmv"
)

// draws are numbers without an order, the same ones for the same seed.
type draws uint64

func (d *draws) next() uint64 {
	*d = *d*6364136223846793005 + 1442695040888963407
	x := uint64(*d)
	return x ^ x>>29 ^ x<<17
}

// below is one from 0 to n - 1.
func (d *draws) below(n int) int {
	return int(d.next() % uint64(n))
}

// hashes are n of any kind, in no order; some come twice, if few are asked for.
func (d *draws) hashes(n int, mask uint64) []uint64 {
	l := make([]uint64, n)
	for i := range l {
		l[i] = d.next() & mask
	}
	return l
}

// list are n that rise, from first on, each step after the one ahead.
func list(n int, first, step uint64) []uint64 {
	l := make([]uint64, n)
	for i := range l {
		l[i] = first + step*uint64(i)
	}
	return l
}

// top are n that rise up to the greatest one.
func top(n int) []uint64 {
	return list(n, api.Most-uint64(n)+1, 1)
}

// ending are 1024 of which the greatest one is last.
func ending(last uint64) []uint64 {
	return append(list(1023, 0, 1), last)
}

// least are the least 1024 of all that came, by P8.4's words.
func least(all ...[]uint64) []uint64 {
	l := slices.Concat(all...)
	slices.Sort(l)
	l = slices.Compact(l)
	return l[:min(len(l), 1024)]
}

// slowDistinct is P8.2's words.
func slowDistinct(l []uint64) uint64 {
	if len(l) < 1024 {
		return uint64(len(l))
	}
	over := new(big.Int).Lsh(big.NewInt(1023), 64)
	under := new(big.Int).SetUint64(l[len(l)-1])
	return over.Div(over, under.Add(under, big.NewInt(1))).Uint64()
}

// right are lists that Check allows.
func right() [][]uint64 {
	out := [][]uint64{
		nil, {}, {0}, {1}, {api.Most}, {0, 1}, {0, api.Most}, {api.Most - 1, api.Most}, {1 << 63, 1<<63 + 1}, {1<<63 - 1, 1 << 63}, {5, 6, 9},
		list(1022, 0, 1), list(1023, 0, 1), list(1024, 0, 1), list(1023, 1, 1<<54), list(1024, 0, 1<<54), list(1024, 9, 1<<40), top(1023), top(1024),
	}
	d := draws(3)
	for range 60 {
		out = append(out, least(d.hashes(d.below(1400), 1<<(1+d.below(64))-1)))
	}
	for e := 10; e < 64; e++ {
		out = append(out, ending(1<<e-1), ending(1<<e), ending(1<<e+1))
	}
	return append(out, ending(1023), ending(1026), ending(api.Most-1), ending(api.Most))
}

// wrong are lists that Check does not allow.
func wrong() [][]uint64 {
	out := [][]uint64{
		{0, 0}, {1, 1}, {2, 1}, {1, 0}, {api.Most, 0}, {api.Most, api.Most}, {1 << 63, 1<<63 - 1}, {1, 2, 2}, {1, 1, 2}, {1, 3, 2}, {3, 1, 2}, {1, 5, 3, 9},
		list(1025, 0, 1), list(1025, 7, 1<<50), list(2048, 0, 1), list(3000, 1, 3), top(1025), make([]uint64, 1025), make([]uint64, 1024),
	}
	for _, at := range []int{0, 1, 511, 1021, 1022} {
		twice, fallen := list(1024, 5, 2), list(1024, 5, 2)
		twice[at+1] = twice[at]
		fallen[at+1] = fallen[at] - 1
		out = append(out, twice, fallen)
	}
	last := list(1024, 5, 2)
	slices.Reverse(last)
	return append(out, last)
}

// room is a list with spare room behind it, and what stands there.
func room(l []uint64) ([]uint64, []uint64) {
	whole := append(slices.Clone(l), 77, 0, api.Most)
	return whole[:len(l)], whole
}

// of is a Kmv of hashes that may be.
func of(t *testing.T, l []uint64) *kmv.Kmv {
	t.Helper()
	k, e := kmv.From(l)
	if k == nil || e != api.OK {
		t.Fatalf("From of %d hashes answers %v", len(l), e)
	}
	return k
}

// holds tells of a Kmv that does not hold just what it should.
func holds(t *testing.T, k *kmv.Kmv, want []uint64) {
	t.Helper()
	got := k.Hashes()
	if !slices.Equal(got, want) {
		t.Fatalf("%d hashes %d.., not %d: %d..", len(got), got[:min(len(got), 5)], len(want), want[:min(len(want), 5)])
	}
	if n := k.Distinct(); n != slowDistinct(want) || n != kmv.Distinct(got) {
		t.Fatalf("Distinct of %d hashes = %d, of the list %d, not %d", len(got), n, kmv.Distinct(got), slowDistinct(want))
	}
}

func TestExample(t *testing.T) { // the chapter's
	k := kmv.New()
	k.Add("a")
	k.Add("a")
	k.Add("b")
	if n := k.Distinct(); n != 2 {
		t.Error(n)
	}
	holds(t, k, []uint64{0xaf63dc4c8601ec8c, 0xaf63df4c8601f1a5})
}

func TestCheck(t *testing.T) { // P8.1
	for _, l := range right() {
		if !kmv.Check(l) {
			t.Errorf("Check of %d hashes = false", len(l))
		}
	}
	for _, l := range wrong() {
		if kmv.Check(l) {
			t.Errorf("Check of %d hashes %d.. = true", len(l), l[:2])
		}
	}
	if l, _ := room([]uint64{90}); !kmv.Check(l) {
		t.Error("what stands in spare room is none of the list")
	}
}

func TestFrom(t *testing.T) { // P8.1
	for _, l := range right() {
		holds(t, of(t, l), l)
	}
	for _, l := range wrong() {
		if k, e := kmv.From(l); k != nil || e != api.ErrInvalid {
			t.Errorf("From of %d hashes %d.. answers %v, %v", len(l), l[:2], k != nil, e)
		}
	}
}

func TestNewHoldsNone(t *testing.T) { // P8.1, P8.2
	one := kmv.New()
	one.Hash(7)
	holds(t, kmv.New(), nil)
	holds(t, of(t, nil), nil)
	holds(t, of(t, []uint64{}), nil)
}

func TestHash(t *testing.T) { // P8.1: few ones, the hashes 0 and 2^64 - 1, one that is there already
	k := kmv.New()
	for _, x := range []struct {
		h    uint64
		want []uint64
	}{
		{5, []uint64{5}},
		{5, []uint64{5}},
		{api.Most, []uint64{5, api.Most}},
		{0, []uint64{0, 5, api.Most}},
		{0, []uint64{0, 5, api.Most}},
		{api.Most, []uint64{0, 5, api.Most}},
		{1 << 63, []uint64{0, 5, 1 << 63, api.Most}},
		{1<<63 - 1, []uint64{0, 5, 1<<63 - 1, 1 << 63, api.Most}},
		{5, []uint64{0, 5, 1<<63 - 1, 1 << 63, api.Most}},
	} {
		k.Hash(x.h)
		holds(t, k, x.want)
	}
	for _, h := range []uint64{0, 1, api.Most} {
		k := kmv.New()
		k.Hash(h)
		k.Hash(h)
		holds(t, k, []uint64{h})
	}
}

func TestHashOfFewAndFull(t *testing.T) { // P8.1: one that is there, one between, one less than all, one above all
	for _, n := range []int{1, 2, 1022, 1023, 1024} {
		l := list(n, 1000, 10)
		for _, h := range []uint64{0, 1, 999, 1000, 1001, l[n/2], l[n/2] + 1, l[n-1] - 1, l[n-1], l[n-1] + 1, api.Most - 1, api.Most} {
			k := of(t, l)
			want := least(l, []uint64{h})
			for range 2 {
				k.Hash(h)
				holds(t, k, want)
			}
			// One more: what was dropped is not thought to be there, and the new greatest one is known.
			for _, next := range []uint64{want[len(want)-1], want[len(want)-1] - 1, l[n-1], 2, 3} {
				k.Hash(next)
				want = least(want, []uint64{next})
				holds(t, k, want)
			}
		}
	}
}

func TestHashAtTheEnds(t *testing.T) { // P8.1: 2^64 - 1 is dropped as any other greatest one; 0 never is
	k := of(t, top(1024))
	for i := range uint64(1030) {
		k.Hash(i)
		holds(t, k, least(top(1024), list(int(i)+1, 0, 1)))
	}
	k.Hash(api.Most)
	holds(t, k, list(1024, 0, 1))
	k.Hash(1024)
	holds(t, k, list(1024, 0, 1))
}

func TestOrderTellsNothing(t *testing.T) { // P8.4, P8.1: rising, falling, mixed; with some that come again
	d := draws(5)
	for _, n := range []int{0, 1, 2, 1000, 1023, 1024, 1025, 1500, 5000} {
		for _, mask := range []uint64{api.Most, 1<<40 - 1, 1<<11 - 1, 1<<10 - 1, 15} {
			l := d.hashes(n, mask)
			want := least(l)
			rising := slices.Sorted(slices.Values(l))
			falling := slices.Clone(rising)
			slices.Reverse(falling)
			again := slices.Concat(l, falling[:n/2], l)
			for _, order := range [][]uint64{l, rising, falling, again} {
				k := kmv.New()
				for _, h := range order {
					k.Hash(h)
				}
				holds(t, k, want)
			}
		}
	}
}

func TestEachStep(t *testing.T) { // P8.1, P8.4: behind each hash it holds the least ones of all that came so far
	d := draws(9)
	k := kmv.New()
	var came []uint64
	for i := range 2500 {
		h := d.next() >> (i / 200)
		k.Hash(h)
		came = append(least(came), h)
		holds(t, k, least(came))
	}
}

func TestAdd(t *testing.T) { // P8.1: one text twice, the empty one, many
	k := kmv.New()
	k.Add("")
	holds(t, k, []uint64{0xcbf29ce484222325})
	k.Add("")
	k.Add("foobar")
	k.Add("foobar")
	holds(t, k, []uint64{0x85944171f73967e8, 0xcbf29ce484222325})
	k.Hash(fnv.Of("x\x00\xff"))
	k.Add("x\x00\xff")
	if n := k.Distinct(); n != 3 {
		t.Error(n)
	}
	var all []uint64
	things := kmv.New()
	for i := range 3000 {
		item := "thing " + strconv.Itoa(i%2500)
		things.Add(item)
		all = append(all, fnv.Of(item))
		if i%97 == 0 || i == 1022 || i == 1023 || i == 1024 {
			holds(t, things, least(all))
		}
	}
	holds(t, things, least(all))
}

func TestDistinctIsExactBelow1024(t *testing.T) { // P8.2, T2
	k := kmv.New()
	for i := range 1023 {
		k.Add("thing " + strconv.Itoa(i))
		k.Add("thing " + strconv.Itoa(i/2))
		if n := k.Distinct(); n != uint64(i)+1 {
			t.Fatalf("%d things: Distinct() = %d", i+1, n)
		}
	}
	k.Hash(0)
	if l := k.Hashes(); len(l) != 1024 || k.Distinct() != slowDistinct(l) || k.Distinct() == 1024 {
		t.Error(len(l), k.Distinct())
	}
}

func TestDistinct(t *testing.T) { // P8.2: by the greatest one: 2^64 - 1, 1023, a power of two, one less
	for _, x := range []struct {
		l    []uint64
		want uint64
	}{
		{nil, 0},
		{[]uint64{}, 0},
		{[]uint64{0}, 1},
		{[]uint64{api.Most}, 1},
		{[]uint64{0, api.Most}, 2},
		{list(1022, 0, 1), 1022},
		{list(1023, 0, 1), 1023},
		{top(1023), 1023},
		{list(1024, 0, 1), 18428729675200069632},
		{top(1024), 1023},
		{ending(1023), 18428729675200069632},
		{ending(1024), 18410750426736459807},
		{ending(api.Most), 1023},
		{ending(api.Most - 1), 1023},
		{ending(1<<63 - 1), 2046},
		{ending(1 << 63), 2045},
		{ending(1<<62 - 1), 4092},
		{ending(1 << 62), 4091},
		{ending(1<<32 - 1), 1023 << 32},
		{ending(1 << 32), 4393751542785},
	} {
		if n := kmv.Distinct(x.l); n != x.want || n != slowDistinct(x.l) {
			t.Errorf("Distinct of %d hashes = %d, not %d", len(x.l), n, x.want)
		}
		if n := of(t, x.l).Distinct(); n != x.want {
			t.Errorf("Distinct() of %d hashes = %d, not %d", len(x.l), n, x.want)
		}
	}
	for _, l := range right() {
		if n := kmv.Distinct(l); n != slowDistinct(l) {
			t.Errorf("Distinct of %d hashes = %d, not %d", len(l), n, slowDistinct(l))
		}
	}
	for _, l := range wrong() {
		if n := kmv.Distinct(l); n != 0 {
			t.Errorf("Distinct of %d hashes %d.. = %d", len(l), l[:2], n)
		}
	}
}

func TestDistinctOfMany(t *testing.T) { // T2: told by the 1024th least hash
	k := kmv.New()
	var all []uint64
	for i := range 100000 {
		item := "thing " + strconv.Itoa(i)
		k.Add(item)
		all = append(all, fnv.Of(item))
	}
	holds(t, k, least(all))
	if n := k.Distinct(); n < 50000 || n > 200000 {
		t.Error(n)
	}
}

func TestMerge(t *testing.T) { // P8.1: of none, of what is there, of others
	k := kmv.New()
	for _, x := range []struct{ l, want []uint64 }{
		{nil, nil},
		{[]uint64{}, nil},
		{[]uint64{3}, []uint64{3}},
		{nil, []uint64{3}},
		{[]uint64{3}, []uint64{3}},
		{[]uint64{0, api.Most}, []uint64{0, 3, api.Most}},
		{[]uint64{0, 3, api.Most}, []uint64{0, 3, api.Most}},
		{list(1021, 4, 1), append(list(1022, 3, 1), api.Most)},
		{list(1024, 5, 1), nil},
		{list(1024, 2, 1), nil},
		{list(1024, 0, 1), nil},
		{top(1024), nil},
	} {
		want := least(k.Hashes(), x.l)
		if e := k.Merge(x.l); e != api.OK {
			t.Errorf("Merge of %d hashes = %v", len(x.l), e)
		}
		holds(t, k, want)
	}
	holds(t, k, list(1024, 0, 1))
}

func TestMergeIsHashOfEach(t *testing.T) { // P8.1, P8.4
	some := [][]uint64{nil, {0}, {api.Most}, {0, api.Most}, list(500, 3, 7), list(1023, 0, 2), list(1023, 1, 2), list(1024, 0, 2), list(1024, 1, 2), list(1024, 2048, 1), list(1024, 1000, 1), top(1024), top(3)}
	d := draws(13)
	for range 12 {
		some = append(some, least(d.hashes(d.below(2000), 1<<(12+d.below(20))-1)))
	}
	for _, a := range some {
		for _, b := range some {
			want := least(a, b)
			merged, hashed := of(t, a), of(t, a)
			if e := merged.Merge(b); e != api.OK {
				t.Fatal(e)
			}
			for _, h := range b {
				hashed.Hash(h)
			}
			holds(t, merged, want)
			holds(t, hashed, want)
			// What comes behind a merge is held against the greatest one that is left.
			for _, h := range []uint64{1 << 20, 4000, 2047, 77, 1} {
				merged.Hash(h)
				want = least(want, []uint64{h})
				holds(t, merged, want)
			}
		}
	}
}

func TestMergeTurnedAndGrouped(t *testing.T) { // P8.4
	d := draws(17)
	for range 60 {
		a, b, c := d.hashes(d.below(3000), api.Most), d.hashes(d.below(1500), 1<<60-1), d.hashes(d.below(900), 1<<11-1)
		x, y, z := least(a), least(b), least(c)
		want := least(a, b, c)
		for _, order := range [][3][]uint64{{x, y, z}, {x, z, y}, {y, x, z}, {y, z, x}, {z, x, y}, {z, y, x}} {
			left := of(t, order[0])
			left.Merge(order[1])
			left.Merge(order[2])
			holds(t, left, want)
			inner, right := of(t, order[1]), of(t, order[0])
			inner.Merge(order[2])
			right.Merge(inner.Hashes())
			holds(t, right, want)
		}
	}
}

func TestRefusedMergeChangesNothing(t *testing.T) { // P8.1, R2: what stands behind it
	for _, was := range [][]uint64{nil, {1, 5, api.Most}, list(1023, 2, 3), list(1024, 2, 3)} {
		k := of(t, was)
		for _, l := range wrong() {
			if e := k.Merge(l); e != api.ErrInvalid {
				t.Errorf("Merge of %d hashes %d.. = %v", len(l), l[:2], e)
			}
		}
		holds(t, k, was)
		if e := k.Merge([]uint64{0, 4}); e != api.OK {
			t.Error("it takes no more what may be", e)
		}
		holds(t, k, least(was, []uint64{0, 4}))
	}
}

func TestListsAreLeftAndNotKept(t *testing.T) { // R3
	for _, given := range [][]uint64{{2, 9}, list(1024, 2, 7)} {
		l, whole := room(given)
		was := slices.Clone(whole)
		k := of(t, l)
		if k.Merge(l) != api.OK || !kmv.Check(l) || kmv.Distinct(l) != slowDistinct(given) {
			t.Error("the list is not taken")
		}
		kmv.Put(nil, l)
		k.Hash(1)
		if !slices.Equal(whole, was) {
			t.Errorf("%d was turned", len(l))
		}
		clear(whole)
		holds(t, k, least(given, []uint64{1}))
	}
}

func TestHashesAreNewEachTime(t *testing.T) { // P8.1, R3
	for _, l := range [][]uint64{{3}, {2, 9, 11}, list(1023, 2, 7), list(1024, 2, 7)} {
		k := of(t, l)
		one, two := k.Hashes(), k.Hashes()
		one = one[:cap(one)]
		for i := range one {
			one[i] = 0
		}
		if !slices.Equal(two, l) {
			t.Fatal("two answers share memory")
		}
		holds(t, k, l)
		k.Hash(1)
		if !slices.Equal(two, l) {
			t.Fatal("an answer turns with what comes")
		}
		holds(t, k, least(l, []uint64{1}))
	}
}

func TestTwoHaveNothingInCommon(t *testing.T) { // R4
	l := []uint64{2, 3}
	a, b, c := kmv.New(), of(t, l), of(t, l)
	a.Hash(1)
	b.Hash(7)
	b.Merge(a.Hashes())
	a.Hash(4)
	holds(t, a, []uint64{1, 4})
	holds(t, b, []uint64{1, 2, 3, 7})
	holds(t, c, l)
}
