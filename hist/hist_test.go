package hist_test

import (
	"math"
	"math/big"
	"slices"
	"testing"

	"varve/api"
	"varve/hist"
)

// lows are the least numbers of all buckets by the chapter's words: one by one below 256, then for each e the numbers
// from 128 to 255 times 2^e.
func lows() []uint64 {
	var out []uint64
	for v := range uint64(256) {
		out = append(out, v)
	}
	for e := 1; e <= 56; e++ {
		for m := uint64(128); m <= 255; m++ {
			out = append(out, m<<e)
		}
	}
	return out
}

// slowBucket is P7.1's words: v is halved till it has eight bits, and e is how often.
func slowBucket(v uint64) int {
	e := 0
	for v >= 256 {
		v, e = v/2, e+1
	}
	return 128*e + int(v)
}

// draws are numbers without an order, of all lengths, the same ones for the same seed.
type draws uint64

func (d *draws) next() uint64 {
	*d = *d*6364136223846793005 + 1442695040888963407
	x := uint64(*d)
	return x ^ x>>29 ^ x<<17
}

// below is one from 0 to n - 1.
func (d *draws) below(n int) int {
	return int(d.next() % uint64(n))
}

// any is one of any length in bits.
func (d *draws) any() uint64 {
	return d.next() >> d.below(64)
}

// buckets are n that rise, from first on, at most gap apart.
func (d *draws) buckets(first, n, gap int) []api.Bucket {
	var l []api.Bucket
	for at := first; len(l) < n && at < api.Buckets; at += 1 + d.below(gap) {
		l = append(l, api.Bucket{At: at, N: max(d.any(), 1)})
	}
	return l
}

// numbers are 0, those at each power of two, and some of all lengths.
func numbers() []uint64 {
	out := []uint64{0, 1, 2, 127, 128, 129, 254, 255, 256, 257, 258, 299, 300, 301, 302, 511, 512, 513, api.Most - 1, api.Most}
	for i := range 64 {
		p := uint64(1) << i
		out = append(out, p-1, p, p+1)
	}
	d := draws(7)
	for range 3000 {
		out = append(out, d.any())
	}
	return out
}

// none are places that are no bucket's.
func none() []int {
	return []int{-1, -2, -128, -256, math.MinInt, math.MinInt + 1, api.Buckets, api.Buckets + 1, api.Buckets + 128, 1 << 32, math.MaxInt - 1, math.MaxInt}
}

// wrong are lists that Check does not allow.
func wrong() [][]api.Bucket {
	out := [][]api.Bucket{
		{{At: 5, N: 0}},
		{{At: 0, N: 0}},
		{{At: 3, N: 1}, {At: 3, N: 1}},
		{{At: 3, N: 1}, {At: 3, N: 2}},
		{{At: 0, N: 1}, {At: 0, N: 1}},
		{{At: 4, N: 1}, {At: 3, N: 1}},
		{{At: 7423, N: 1}, {At: 0, N: 1}},
		{{At: 1, N: 1}, {At: 2, N: 0}, {At: 3, N: 1}},
		{{At: 1, N: 0}, {At: 2, N: 1}},
		{{At: 1, N: 1}, {At: 2, N: 1}, {At: 9, N: 0}},
		{{At: 1, N: 1}, {At: 5, N: 1}, {At: 3, N: 1}, {At: 9, N: 1}},
		{{At: 1, N: 1}, {At: 5, N: 1}, {At: 9, N: 1}, {At: 9, N: 1}},
		{{At: math.MinInt, N: 1}, {At: math.MaxInt, N: 1}},
		{{At: math.MaxInt, N: 1}, {At: math.MinInt, N: 1}},
		{{At: -2, N: 1}, {At: -1, N: 1}, {At: 0, N: 1}},
	}
	for _, at := range none() {
		out = append(out, []api.Bucket{{At: at, N: 1}}, []api.Bucket{{At: 1, N: 1}, {At: at, N: 1}}, []api.Bucket{{At: at, N: api.Most}, {At: 7000, N: 1}})
	}
	return out
}

// right are lists that Check allows.
func right() [][]api.Bucket {
	var all, odd []api.Bucket
	for at := range api.Buckets {
		all = append(all, api.Bucket{At: at, N: 1})
		if at%2 == 1 {
			odd = append(odd, api.Bucket{At: at, N: api.Most})
		}
	}
	out := [][]api.Bucket{
		nil,
		{},
		{{At: 0, N: 1}},
		{{At: 5, N: 1}},
		{{At: 7423, N: 1}},
		{{At: 127, N: 127}},
		{{At: 128, N: 128}},
		{{At: 0, N: api.Most}},
		{{At: 7423, N: api.Most}},
		{{At: 0, N: 1}, {At: 1, N: 1}},
		{{At: 0, N: 1}, {At: 7423, N: 1}},
		{{At: 0, N: api.Most}, {At: 7423, N: api.Most}},
		{{At: 5, N: 1}, {At: 278, N: 200}},
		{{At: 7422, N: 3}, {At: 7423, N: 4}},
		all,
		odd,
	}
	d := draws(11)
	for i := range 200 {
		out = append(out, d.buckets(d.below(api.Buckets), 1+d.below(60), 1+i))
	}
	return out
}

// room is a list with spare room behind it, and what stands there.
func room(l []api.Bucket) ([]api.Bucket, []api.Bucket) {
	whole := append(slices.Clone(l), api.Bucket{At: 77, N: 88}, api.Bucket{At: -1}, api.Bucket{At: 99, N: 1})
	return whole[:len(l)], whole
}

// of is a Hist of buckets that may be.
func of(t *testing.T, l []api.Bucket) *hist.Hist {
	t.Helper()
	h, e := hist.From(l)
	if h == nil || e != api.OK {
		t.Fatalf("From(%v) answers %v", l, e)
	}
	return h
}

// model is what the chapter's words say of numbers that were added: a sum without bounds for each bucket.
type model map[int]*big.Int

func (m model) add(at int, n uint64) {
	if m[at] == nil {
		m[at] = new(big.Int)
	}
	m[at] = held(new(big.Int).Add(m[at], new(big.Int).SetUint64(n)))
}

// held is a sum, Most at most.
func held(x *big.Int) *big.Int {
	top := new(big.Int).SetUint64(api.Most)
	if x.Cmp(top) > 0 {
		return top
	}
	return x
}

// upTo is the sum of the buckets up to one, without bounds.
func (m model) upTo(last int) *big.Int {
	out := new(big.Int)
	for at, n := range m {
		if at <= last {
			out.Add(out, n)
		}
	}
	return out
}

func (m model) buckets() []api.Bucket {
	var l []api.Bucket
	for at := range api.Buckets {
		if n := m[at]; n != nil && n.Sign() > 0 {
			l = append(l, api.Bucket{At: at, N: n.Uint64()})
		}
	}
	return l
}

// quantile is P7.4's words.
func (m model) quantile(a, b uint64) (uint64, api.Errno) {
	count := m.upTo(api.Buckets)
	switch {
	case b == 0 || a > b:
		return 0, api.ErrInvalid
	case count.Cmp(new(big.Int).SetUint64(api.Most)) >= 0:
		return 0, api.ErrSaturated
	case count.Sign() == 0:
		return 0, api.ErrNone
	}
	k, rest := new(big.Int), new(big.Int)
	k.DivMod(k.Mul(count, new(big.Int).SetUint64(a)), new(big.Int).SetUint64(b), rest)
	if rest.Sign() > 0 {
		k.Add(k, big.NewInt(1))
	}
	if k.Sign() == 0 {
		k.SetInt64(1)
	}
	all := lows()
	sum := new(big.Int)
	for _, one := range m.buckets() {
		if sum.Add(sum, m[one.At]); sum.Cmp(k) >= 0 {
			return all[one.At], api.OK
		}
	}
	return 0, api.ErrBytes
}

func TestBucketsRiseOneByOne(t *testing.T) { // P7.1: each bucket's least and greatest number, by the chapter's words
	all := lows()
	if len(all) != api.Buckets {
		t.Fatal(len(all))
	}
	for at, low := range all {
		high := uint64(api.Most)
		if at+1 < len(all) {
			high = all[at+1] - 1
		}
		if got, ok := hist.Low(at); got != low || !ok {
			t.Errorf("Low(%d) = %d, %t, not %d", at, got, ok, low)
		}
		if got, ok := hist.High(at); got != high || !ok {
			t.Errorf("High(%d) = %d, %t, not %d", at, got, ok, high)
		}
		for _, v := range []uint64{low, low + (high-low)/2, high} {
			if got := hist.Bucket(v); got != at {
				t.Errorf("Bucket(%d) = %d, not %d", v, got, at)
			}
		}
	}
}

func TestBucketOfNumbers(t *testing.T) { // P7.1: 0, 255, 256, each power of two and one less, the greatest
	for _, x := range []struct {
		v  uint64
		at int
	}{{0, 0}, {1, 1}, {127, 127}, {128, 128}, {255, 255}, {256, 256}, {257, 256}, {258, 257}, {299, 277}, {300, 278}, {301, 278}, {302, 279}, {510, 383}, {511, 383}, {512, 384}, {515, 384}, {516, 385}, {1 << 62, 7168}, {1<<63 - 1, 7295}, {1 << 63, 7296}, {api.Most, 7423}} {
		if got := hist.Bucket(x.v); got != x.at {
			t.Errorf("Bucket(%d) = %d, not %d", x.v, got, x.at)
		}
	}
	for _, v := range numbers() {
		if got, want := hist.Bucket(v), slowBucket(v); got != want {
			t.Errorf("Bucket(%d) = %d, not %d", v, got, want)
		}
	}
}

func TestNoBucket(t *testing.T) { // P7.1: below 0, behind the last one
	for _, at := range none() {
		if v, ok := hist.Low(at); v != 0 || ok {
			t.Errorf("Low(%d) = %d, %t", at, v, ok)
		}
		if v, ok := hist.High(at); v != 0 || ok {
			t.Errorf("High(%d) = %d, %t", at, v, ok)
		}
	}
}

func TestLowIsNear(t *testing.T) { // P7.6
	for _, v := range numbers() {
		at := hist.Bucket(v)
		low, ok := hist.Low(at)
		high, is := hist.High(at)
		if !ok || !is || low > v || high < v || v-low > v/128 {
			t.Errorf("%d lies in bucket %d, from %d to %d", v, at, low, high)
		}
	}
	for at := range api.Buckets {
		low, _ := hist.Low(at)
		if high, _ := hist.High(at); high-low > high/128 {
			t.Errorf("bucket %d goes from %d to %d", at, low, high)
		}
	}
}

func TestExamples(t *testing.T) { // the chapter's
	low, _ := hist.Low(278)
	high, _ := hist.High(278)
	if hist.Bucket(300) != 278 || low != 300 || high != 301 {
		t.Error(hist.Bucket(300), low, high)
	}
	h := hist.New()
	h.Add(5, 1)
	h.Add(300, 1)
	if v, e := h.Quantile(1, 2); v != 5 || e != api.OK {
		t.Error(v, e)
	}
	if v, e := h.Quantile(1, 1); v != 300 || e != api.OK {
		t.Error(v, e)
	}
}

func TestCheck(t *testing.T) { // P7.2
	for _, l := range right() {
		if !hist.Check(l) {
			t.Errorf("Check(%v) = false", l)
		}
	}
	for _, l := range wrong() {
		if hist.Check(l) {
			t.Errorf("Check(%v) = true", l)
		}
	}
	if l, _ := room([]api.Bucket{{At: 3, N: 1}}); !hist.Check(l) {
		t.Error("what stands in spare room is none of the list")
	}
}

func TestFrom(t *testing.T) { // P7.2
	for _, l := range right() {
		if got := of(t, l).Buckets(); !slices.Equal(got, l) {
			t.Errorf("From(%v) has %v", l, got)
		}
	}
	for _, l := range wrong() {
		if h, e := hist.From(l); h != nil || e != api.ErrInvalid {
			t.Errorf("From(%v) answers %v, %v", l, h != nil, e)
		}
	}
}

func TestNewSawNothing(t *testing.T) { // P7.2, P7.3, P7.4
	one := hist.New()
	one.Add(7, 7)
	none, _ := hist.From([]api.Bucket{})
	for _, h := range []*hist.Hist{hist.New(), none, of(t, nil)} {
		if got := h.Buckets(); len(got) != 0 {
			t.Errorf("Buckets() = %v", got)
		}
		if n, e := h.Count(); n != 0 || e != api.OK {
			t.Errorf("Count() = %d, %v", n, e)
		}
		for _, v := range numbers() {
			if n := h.Rank(v); n != 0 {
				t.Errorf("Rank(%d) = %d", v, n)
			}
		}
		for _, x := range [][2]uint64{{0, 1}, {1, 1}, {1, 2}, {api.Most, api.Most}} {
			if v, e := h.Quantile(x[0], x[1]); v != 0 || e != api.ErrNone {
				t.Errorf("Quantile(%v) = %d, %v", x, v, e)
			}
		}
	}
}

func TestAdd(t *testing.T) { // P7.2: of n 0, of the greatest n, twice into one bucket
	for _, x := range []struct {
		v    uint64
		n    []uint64
		want uint64
	}{
		{5, nil, 0},
		{5, []uint64{0}, 0},
		{5, []uint64{0, 0}, 0},
		{5, []uint64{1}, 1},
		{5, []uint64{1, 0}, 1},
		{5, []uint64{1, 2}, 3},
		{0, []uint64{1, 1, 1}, 3},
		{api.Most, []uint64{api.Most}, api.Most},
		{api.Most, []uint64{api.Most, 0}, api.Most},
		{300, []uint64{api.Most, 1}, api.Most},
		{300, []uint64{1, api.Most}, api.Most},
		{300, []uint64{api.Most, api.Most}, api.Most},
		{300, []uint64{api.Most - 1, 1}, api.Most},
		{300, []uint64{api.Most - 2, 1}, api.Most - 1},
		{300, []uint64{1 << 63, 1 << 63}, api.Most},
		{300, []uint64{1 << 63, 1<<63 - 1}, api.Most},
	} {
		h := hist.New()
		for _, n := range x.n {
			h.Add(x.v, n)
		}
		var want []api.Bucket
		if x.want > 0 {
			want = []api.Bucket{{At: slowBucket(x.v), N: x.want}}
		}
		if got := h.Buckets(); !slices.Equal(got, want) {
			t.Errorf("%d, %d times: %v, not %v", x.v, x.n, got, want)
		}
	}
}

func TestAddGoesToTheNumbersBucket(t *testing.T) { // P7.2: its least and its greatest number are one
	h := hist.New()
	for at, low := range lows() {
		high, _ := hist.High(at)
		h.Add(low, 1)
		h.Add(high, uint64(at))
	}
	for at, one := range h.Buckets() {
		if one.At != at || one.N != uint64(at)+1 {
			t.Fatalf("bucket %d: %v", at, one)
		}
	}
	if n := len(h.Buckets()); n != api.Buckets {
		t.Error(n)
	}
}

func TestMerge(t *testing.T) { // P7.2
	h := hist.New()
	for _, x := range []struct {
		l, want []api.Bucket
	}{
		{nil, nil},
		{[]api.Bucket{{At: 3, N: 1}}, []api.Bucket{{At: 3, N: 1}}},
		{[]api.Bucket{}, []api.Bucket{{At: 3, N: 1}}},
		{[]api.Bucket{{At: 3, N: 4}, {At: 7423, N: 2}}, []api.Bucket{{At: 3, N: 5}, {At: 7423, N: 2}}},
		{[]api.Bucket{{At: 0, N: 9}, {At: 3, N: api.Most - 5}}, []api.Bucket{{At: 0, N: 9}, {At: 3, N: api.Most}, {At: 7423, N: 2}}},
		{[]api.Bucket{{At: 3, N: 1}, {At: 7423, N: api.Most}}, []api.Bucket{{At: 0, N: 9}, {At: 3, N: api.Most}, {At: 7423, N: api.Most}}},
	} {
		if e := h.Merge(x.l); e != api.OK {
			t.Errorf("Merge(%v) = %v", x.l, e)
		}
		if got := h.Buckets(); !slices.Equal(got, x.want) {
			t.Errorf("behind Merge(%v): %v, not %v", x.l, got, x.want)
		}
	}
}

func TestRefusedMergeChangesNothing(t *testing.T) { // P7.2, R2
	was := []api.Bucket{{At: 1, N: 5}, {At: 3, N: 1}, {At: 7423, N: 4}}
	h, empty := of(t, was), hist.New()
	for _, l := range wrong() {
		if e := h.Merge(l); e != api.ErrInvalid {
			t.Errorf("Merge(%v) = %v", l, e)
		}
		if e := empty.Merge(l); e != api.ErrInvalid {
			t.Errorf("Merge(%v) = %v", l, e)
		}
	}
	if got := h.Buckets(); !slices.Equal(got, was) {
		t.Errorf("%v, not %v", got, was)
	}
	if n, e := h.Count(); n != 10 || e != api.OK {
		t.Error(n, e)
	}
	if got := empty.Buckets(); len(got) != 0 {
		t.Errorf("%v, not nothing", got)
	}
	if e := h.Merge(was); e != api.OK || h.Rank(api.Most) != 20 {
		t.Error("it takes no more what may be", e)
	}
}

func TestListsAreLeftAndNotKept(t *testing.T) { // R3
	l, whole := room([]api.Bucket{{At: 2, N: 3}, {At: 9, N: 4}})
	was := slices.Clone(whole)
	h := of(t, l)
	if h.Merge(l) != api.OK || !hist.Check(l) || !slices.Equal(whole, was) {
		t.Errorf("%v, not %v", whole, was)
	}
	h.Add(2, 1)
	if !slices.Equal(whole, was) {
		t.Errorf("behind Add: %v, not %v", whole, was)
	}
	clear(whole)
	want := []api.Bucket{{At: 2, N: 7}, {At: 9, N: 8}}
	got := h.Buckets()
	if !slices.Equal(got, want) {
		t.Errorf("%v, not %v", got, want)
	}
	clear(got[:cap(got)])
	if got := h.Buckets(); !slices.Equal(got, want) {
		t.Errorf("behind a change of what was answered: %v", got)
	}
}

func TestTwoHaveNothingInCommon(t *testing.T) { // R4
	l := []api.Bucket{{At: 2, N: 3}}
	a, b, c := hist.New(), of(t, l), of(t, l)
	a.Add(1, 1)
	b.Add(1, 2)
	if !slices.Equal(a.Buckets(), []api.Bucket{{At: 1, N: 1}}) || !slices.Equal(b.Buckets(), []api.Bucket{{At: 1, N: 2}, {At: 2, N: 3}}) || !slices.Equal(c.Buckets(), l) {
		t.Error(a.Buckets(), b.Buckets(), c.Buckets())
	}
}

func TestCount(t *testing.T) { // P7.3: a sum that is Most, one less, more; a bucket that is held
	for _, x := range []struct {
		l []api.Bucket
		n uint64
		e api.Errno
	}{
		{nil, 0, api.OK},
		{[]api.Bucket{{At: 0, N: 1}}, 1, api.OK},
		{[]api.Bucket{{At: 7423, N: 1}}, 1, api.OK},
		{[]api.Bucket{{At: 0, N: 2}, {At: 7423, N: 3}}, 5, api.OK},
		{[]api.Bucket{{At: 0, N: api.Most - 1}}, api.Most - 1, api.OK},
		{[]api.Bucket{{At: 0, N: api.Most - 2}, {At: 7423, N: 1}}, api.Most - 1, api.OK},
		{[]api.Bucket{{At: 0, N: 1 << 63}, {At: 9, N: 1<<63 - 2}}, api.Most - 1, api.OK},
		{[]api.Bucket{{At: 0, N: 1 << 63}, {At: 9, N: 1<<63 - 1}}, api.Most, api.ErrSaturated},
		{[]api.Bucket{{At: 0, N: 1 << 63}, {At: 9, N: 1 << 63}}, api.Most, api.ErrSaturated},
		{[]api.Bucket{{At: 0, N: api.Most}}, api.Most, api.ErrSaturated},
		{[]api.Bucket{{At: 7423, N: api.Most}}, api.Most, api.ErrSaturated},
		{[]api.Bucket{{At: 0, N: api.Most - 1}, {At: 1, N: 1}}, api.Most, api.ErrSaturated},
		{[]api.Bucket{{At: 0, N: api.Most - 1}, {At: 1, N: 2}}, api.Most, api.ErrSaturated},
		{[]api.Bucket{{At: 0, N: api.Most}, {At: 1, N: api.Most}, {At: 2, N: 1}}, api.Most, api.ErrSaturated},
	} {
		h := of(t, x.l)
		for range 2 {
			if n, e := h.Count(); n != x.n || e != x.e {
				t.Errorf("Count of %v = %d, %v, not %d, %v", x.l, n, e, x.n, x.e)
			}
		}
		if n := h.Rank(api.Most); n != x.n {
			t.Errorf("Rank of the greatest number in %v = %d, not %d", x.l, n, x.n)
		}
	}
}

func TestRank(t *testing.T) { // P7.3: of 0, of the greatest number, at each edge of a bucket
	h := of(t, []api.Bucket{{At: 0, N: 2}, {At: 5, N: 3}, {At: 278, N: 10}, {At: 7422, N: 20}, {At: 7423, N: 100}})
	last, _ := hist.Low(7423)
	for _, x := range []struct{ v, want uint64 }{
		{0, 2}, {1, 2}, {4, 2}, {5, 5}, {6, 5}, {255, 5}, {298, 5}, {299, 5}, {300, 15}, {301, 15}, {302, 15}, {1 << 63, 15}, {last - 1, 35}, {last, 135}, {api.Most, 135},
	} {
		if got := h.Rank(x.v); got != x.want {
			t.Errorf("Rank(%d) = %d, not %d", x.v, got, x.want)
		}
	}
	h = of(t, []api.Bucket{{At: 3, N: 7}, {At: 9, N: api.Most - 8}, {At: 10, N: 1}, {At: 11, N: api.Most}})
	for _, x := range []struct{ v, want uint64 }{
		{0, 0}, {2, 0}, {3, 7}, {8, 7}, {9, api.Most - 1}, {10, api.Most}, {11, api.Most}, {12, api.Most}, {api.Most, api.Most},
	} {
		if got := h.Rank(x.v); got != x.want {
			t.Errorf("held: Rank(%d) = %d, not %d", x.v, got, x.want)
		}
	}
}

func TestQuantileRefuses(t *testing.T) { // P7.4: the errors, the first one first
	some, held := of(t, []api.Bucket{{At: 5, N: 1}}), of(t, []api.Bucket{{At: 5, N: api.Most}})
	sum := of(t, []api.Bucket{{At: 5, N: api.Most - 1}, {At: 278, N: 1}})
	for _, x := range []struct {
		h    *hist.Hist
		a, b uint64
		e    api.Errno
	}{
		{some, 0, 0, api.ErrInvalid}, {some, 1, 0, api.ErrInvalid}, {some, api.Most, 0, api.ErrInvalid},
		{some, 2, 1, api.ErrInvalid}, {some, api.Most, 1, api.ErrInvalid}, {some, api.Most, api.Most - 1, api.ErrInvalid},
		{held, 0, 0, api.ErrInvalid}, {held, 2, 1, api.ErrInvalid}, {sum, 1, 0, api.ErrInvalid},
		{hist.New(), 0, 0, api.ErrInvalid}, {hist.New(), 2, 1, api.ErrInvalid}, {hist.New(), 1, 0, api.ErrInvalid},
		{held, 0, 1, api.ErrSaturated}, {held, 1, 1, api.ErrSaturated}, {held, 1, 2, api.ErrSaturated}, {held, api.Most, api.Most, api.ErrSaturated},
		{sum, 0, 1, api.ErrSaturated}, {sum, 1, 1, api.ErrSaturated},
		{hist.New(), 0, 1, api.ErrNone}, {hist.New(), 1, 1, api.ErrNone}, {hist.New(), api.Most, api.Most, api.ErrNone},
	} {
		if v, e := x.h.Quantile(x.a, x.b); v != 0 || e != x.e {
			t.Errorf("Quantile(%d, %d) of %v = %d, %v, not %v", x.a, x.b, x.h.Buckets(), v, e, x.e)
		}
	}
}

func TestQuantile(t *testing.T) { // P7.4: a 0, a equal to b, the greatest a and b, each border between two buckets
	two := of(t, []api.Bucket{{At: 5, N: 1}, {At: 278, N: 1}})
	four := of(t, []api.Bucket{{At: 0, N: 1}, {At: 256, N: 2}, {At: 7423, N: 1}})
	most := of(t, []api.Bucket{{At: 1, N: 1 << 63}, {At: 300, N: 1<<63 - 2}})
	top, _ := hist.Low(7423)
	for _, x := range []struct {
		h          *hist.Hist
		a, b, want uint64
	}{
		{two, 0, 1, 5}, {two, 0, api.Most, 5}, {two, 1, api.Most, 5}, {two, 1, 2, 5}, {two, 2, 4, 5}, {two, 3, 4, 300}, {two, 51, 100, 300}, {two, 1, 1, 300}, {two, 9, 9, 300},
		{two, api.Most, api.Most, 300}, {two, api.Most - 1, api.Most, 300}, {two, api.Most / 2, api.Most, 5}, {two, api.Most/2 + 1, api.Most, 300},
		{four, 0, 5, 0}, {four, 1, 4, 0}, {four, 26, 100, 256}, {four, 1, 2, 256}, {four, 3, 4, 256}, {four, 76, 100, top}, {four, 1, 1, top},
		{most, 0, 1, 1}, {most, 1, 2, 1}, {most, 1 << 63, api.Most - 1, 1}, {most, 1<<63 + 1, api.Most - 1, 344}, {most, 1, 1, 344}, {most, api.Most, api.Most, 344}, {most, 1, api.Most, 1},
	} {
		if v, e := x.h.Quantile(x.a, x.b); v != x.want || e != api.OK {
			t.Errorf("Quantile(%d, %d) of %v = %d, %v, not %d", x.a, x.b, x.h.Buckets(), v, e, x.want)
		}
	}
}

func TestQuantileIsABucketsLow(t *testing.T) { // P7.4: of each bucket alone
	for at, low := range lows() {
		h := of(t, []api.Bucket{{At: at, N: api.Most - 1}})
		for _, a := range []uint64{0, 1, 2} {
			if v, e := h.Quantile(a, 2); v != low || e != api.OK {
				t.Fatalf("Quantile(%d, 2) of bucket %d = %d, %v, not %d", a, at, v, e, low)
			}
		}
	}
}

func TestAgainstTheWords(t *testing.T) { // P7.2, P7.3, P7.4: whatever is added
	d := draws(5)
	for round := range 60 {
		h, m := hist.New(), model{}
		for range 1 + d.below(40) {
			if d.below(3) == 0 {
				l := d.buckets(d.below(api.Buckets), d.below(6), 1+d.below(3000))
				for _, one := range l {
					m.add(one.At, one.N)
				}
				if e := h.Merge(l); e != api.OK {
					t.Fatal(l, e)
				}
				continue
			}
			v, n := d.any(), d.any()>>(round%60)
			m.add(slowBucket(v), n)
			h.Add(v, n)
		}
		if got, want := h.Buckets(), m.buckets(); !slices.Equal(got, want) {
			t.Fatalf("%v, not %v", got, want)
		}
		all := m.upTo(api.Buckets)
		count, e := h.Count()
		if count != held(all).Uint64() || (e == api.ErrSaturated) != (count == api.Most) || e != api.OK && e != api.ErrSaturated {
			t.Fatalf("Count() = %d, %v, not %d", count, e, all)
		}
		for range 50 {
			v := d.any()
			if got, want := h.Rank(v), held(m.upTo(slowBucket(v))).Uint64(); got != want {
				t.Fatalf("Rank(%d) = %d, not %d", v, got, want)
			}
			b := d.any()
			a := d.any() % (b/2*2 + 2)
			got, e := h.Quantile(a, b)
			if want, why := m.quantile(a, b); got != want || e != why {
				t.Fatalf("Quantile(%d, %d) = %d, %v, not %d, %v", a, b, got, e, want, why)
			}
		}
	}
}

func TestNearTheTrueQuantile(t *testing.T) { // P7.6: numbers one by one against the sorted ones
	d := draws(3)
	for round := range 40 {
		var seen []uint64
		h := hist.New()
		for range 1 + d.below(300) {
			v := d.any() >> round
			seen = append(seen, v)
			h.Add(v, 1)
		}
		slices.Sort(seen)
		n := uint64(len(seen))
		for range 100 {
			b := 1 + d.next()%1000
			a := d.next() % (b + 1)
			k := max((a*n+b-1)/b, 1)
			truth := seen[k-1]
			v, e := h.Quantile(a, b)
			if e != api.OK || v > truth || truth-v > truth/128 {
				t.Fatalf("Quantile(%d, %d) = %d, %v; the true one is %d", a, b, v, e, truth)
			}
		}
	}
}

func TestMergeTurnedRoundAndGrouped(t *testing.T) { // P7.6: sums that are held among them
	d := draws(9)
	for range 100 {
		a, b, c := d.buckets(0, 200, 60), d.buckets(d.below(100), 200, 60), d.buckets(d.below(5000), 200, 20)
		if d.below(2) == 0 {
			a = append(a[:1:1], api.Bucket{At: 7000, N: api.Most})
		}
		want := of(t, a)
		want.Merge(b)
		want.Merge(c)
		for _, order := range [][3][]api.Bucket{{a, c, b}, {b, a, c}, {b, c, a}, {c, a, b}, {c, b, a}} {
			flat, deep := hist.New(), of(t, order[1])
			for _, l := range order {
				flat.Merge(l)
			}
			deep.Merge(order[2])
			grouped := of(t, order[0])
			grouped.Merge(deep.Buckets())
			if !slices.Equal(flat.Buckets(), want.Buckets()) || !slices.Equal(grouped.Buckets(), want.Buckets()) {
				t.Fatalf("%v, %v, %v: the order tells", a, b, c)
			}
		}
	}
}
