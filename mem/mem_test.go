package mem_test

import (
	"iter"
	"math"
	"slices"
	"strconv"
	"strings"
	"testing"

	"varve/api"
	"varve/label"
	"varve/match"
	"varve/mem"
	"varve/pair"
)

const (
	most      = uint64(api.Most)
	minusZero = uint64(1 << 63)
	quietNaN  = uint64(0x7ff8000000000001)
	lastDay   = (api.Slots - 1) / api.Day
)

// draws are numbers without an order, the same ones for the same seed.
type draws uint64

// below is one from 0 to n - 1.
func (d *draws) below(n int) int {
	*d = *d*6364136223846793005 + 1442695040888963407
	return int(uint64(*d) >> 33 % uint64(n))
}

// set is labels by names and values in turn.
func set(l ...string) []api.Label {
	var out []api.Label
	for i := 0; i < len(l); i += 2 {
		out = append(out, api.Label{Name: l[i], Value: l[i+1]})
	}
	return out
}

// sets are some in label's order, which is not that of their texts.
func sets() [][]api.Label {
	return [][]api.Label{
		set("_", "z"), set("a", "\x00"), set("a", " "), set("a", "1"), set("a", "1", "a0", "2"), set("a", "1", "b", "1"), set("a", "1", "b", "1", "c", "1"), set("a", "1", "b", "1!"), set("a", "1\x00"), set("a", "1!"), set("a", "10"),
		set("a", "2", "b", "0"), set("a", `a"`), set("a", "a#"), set("a", `a\`), set("a", "a]"), set("a", "\x7f"), set("a", "\xc3"), set("a", "é"), set("a", "\xff"), set("a0", "0"), set("aa", "0"), set("b", "1"),
		set(strings.Repeat("q", 32), strings.Repeat("v", 64)), set("z", "1", "zz", "2"), set("z", `1",zz="2`),
	}
}

// slots are some at the edges of minutes, hours, days and of all.
func slots() []int {
	return []int{0, 1, 5, 6, 9, 10, 100, 359, 360, api.Day - 1, api.Day, api.Day + 1, 2*api.Day - 1, 2 * api.Day, 10*api.Day + 7, 1 << 32, lastDay*api.Day - 1, lastDay * api.Day, api.Slots - 1}
}

// rise are n hashes that rise.
func rise(n int, first, step uint64) []uint64 {
	l := make([]uint64, n)
	for i := range l {
		l[i] = first + step*uint64(i)
	}
	return l
}

// sketches are some that may be: of observations, of one part alone, at the limits.
func sketches() []api.Sketch {
	return []api.Sketch{
		{}, {Hist: []api.Bucket{}, Hashes: []uint64{}},
		pair.Of([]api.Obs{{Value: 5, Item: "a"}}), pair.Of([]api.Obs{{Value: 300, Item: "b", Bits: minusZero}, {Value: 300, Item: "a", Bits: quietNaN}}),
		{Hist: []api.Bucket{{At: 5, N: most}}}, {Hist: []api.Bucket{{At: 0, N: 1}, {At: 5, N: 1}, {At: api.Buckets - 1, N: most - 1}}},
		{Hashes: rise(api.Least, 1, 2)}, {Hashes: rise(api.Least, 0, 4)}, {Hashes: []uint64{0, 7, most}},
		{Gauge: api.Gauge{NaNs: 5}}, {Gauge: api.Gauge{N: most, NaNs: most, Lo: minusZero, Hi: 0}}, {Gauge: api.Gauge{N: 2, Lo: math.Float64bits(-2.5), Hi: math.Float64bits(-2.5)}},
	}
}

// wrongSets are lists that label's Check does not allow. Some of them have the text of a set that it allows.
func wrongSets() [][]api.Label {
	nine := make([]api.Label, 9)
	for i := range nine {
		nine[i] = api.Label{Name: "a" + strconv.Itoa(i), Value: "v"}
	}
	return [][]api.Label{
		nil, {}, set("", ""), set("a", ""), set("", "1"), set("A", "1"), set("0", "1"), set("a b", "1"), set("b", "1", "a", "1"), set("a", "1", "a", "1"), set("a", "1", "b", ""),
		set(strings.Repeat("n", 33), "1"), set("a", strings.Repeat("v", 65)), nine, set(`a="1",b`, "1"), set(`z="1",zz`, "2"),
	}
}

// wrongSketches are some that pair's Check does not allow: for one part each.
func wrongSketches() []api.Sketch {
	return []api.Sketch{
		{Hist: []api.Bucket{{At: 5}}}, {Hist: []api.Bucket{{At: -1, N: 1}}}, {Hist: []api.Bucket{{At: api.Buckets, N: 1}}}, {Hist: []api.Bucket{{At: 6, N: 1}, {At: 5, N: 1}}}, {Hist: []api.Bucket{{At: 5, N: 1}, {At: 5, N: 1}}},
		{Hashes: []uint64{2, 1}}, {Hashes: []uint64{1, 1}}, {Hashes: rise(api.Least+1, 0, 1)},
		{Gauge: api.Gauge{Lo: 1}}, {Gauge: api.Gauge{NaNs: 1, Hi: 1}}, {Gauge: api.Gauge{N: 1, Lo: 2, Hi: 1}}, {Gauge: api.Gauge{N: 1, Lo: 0, Hi: minusZero}}, {Gauge: api.Gauge{N: 1, Lo: quietNaN, Hi: quietNaN}},
	}
}

// matchers are some of every kind, the ones that may not be among them.
func matchers() []api.Matcher {
	is := api.Matcher{Op: api.Is, Name: "a", Value: "1"}
	own := api.Matcher{Op: api.And, Kids: []api.Matcher{{}}}
	own.Kids[0] = own
	return []api.Matcher{
		{}, is, {Op: api.Is, Name: "b"}, {Op: api.Isnt, Name: "a", Value: "1"}, {Op: api.Begins, Name: "a", Value: "1"}, {Op: api.Among, Name: "a", Values: []string{"", "10", "2"}},
		{Op: api.And, Kids: []api.Matcher{is, {Op: api.Is, Name: "b", Value: "1"}}}, {Op: api.Or, Kids: []api.Matcher{is, {Op: api.Is, Name: "a0", Value: "0"}}}, {Op: api.Not, Kids: []api.Matcher{is}}, {Op: api.Or}, {Op: api.Is, Name: "none", Value: "x"},
		{Op: -1}, {Op: 8}, {Name: "a"}, {Op: api.Is, Name: "A", Value: "1"}, {Op: api.Not}, own,
	}
}

// entry is what came to one row: each sketch that was added.
type entry struct {
	labels []api.Label
	at     int
	came   []api.Sketch
}

// slow is what rows in memory are by the chapter's words: a list of all that came, in the order in which it came.
type slow []entry

// copied is a row in memory of its own.
func copied(r api.Row) api.Row {
	return api.Row{Labels: slices.Clone(r.Labels), At: r.At, S: api.Sketch{Hist: slices.Clone(r.S.Hist), Hashes: slices.Clone(r.S.Hashes), Gauge: r.S.Gauge}}
}

func (s *slow) add(r api.Row) {
	r = copied(r)
	for i, one := range *s {
		if slices.Equal(one.labels, r.Labels) && one.at == r.At {
			(*s)[i].came = append(one.came, r.S)
			return
		}
	}
	*s = append(*s, entry{labels: r.Labels, at: r.At, came: []api.Sketch{r.S}})
}

func (s *slow) delete(x api.Matcher, from, to int) int {
	n := len(*s)
	*s = slices.DeleteFunc(*s, func(one entry) bool { return one.at >= from && one.at < to && match.Eval(x, one.labels) })
	return n - len(*s)
}

func (s slow) rows() []api.Row {
	var out []api.Row
	for _, one := range s {
		all, _ := pair.Sum(one.came...)
		out = append(out, api.Row{Labels: one.labels, At: one.at, S: all})
	}
	slices.SortFunc(out, func(a, b api.Row) int {
		if c := label.Cmp(a.Labels, b.Labels); c != 0 {
			return c
		}
		return a.At - b.At
	})
	return out
}

// ofDay are those of a day.
func ofDay(rows []api.Row, day int) []api.Row {
	var out []api.Row
	for _, r := range rows {
		if r.At/api.Day == day {
			out = append(out, r)
		}
	}
	return out
}

func (s slow) days() []int {
	var out []int
	for _, one := range s {
		if day := one.at / api.Day; !slices.Contains(out, day) {
			out = append(out, day)
		}
	}
	slices.Sort(out)
	return out
}

func same(a, b api.Row) bool {
	return slices.Equal(a.Labels, b.Labels) && a.At == b.At && pair.Same(a.S, b.S)
}

func equal(a, b []api.Row) bool {
	return slices.EqualFunc(a, b, same)
}

// brief says rows in a few words each: the lists of a sketch are long.
func brief(rows ...api.Row) string {
	var out strings.Builder
	for _, r := range rows {
		out.WriteString("[" + label.Text(r.Labels) + " at " + strconv.Itoa(r.At) + ", " + strconv.Itoa(len(r.S.Hist)) + " buckets, " + strconv.Itoa(len(r.S.Hashes)) + " hashes]")
	}
	return out.String()
}

// told is what Each tells, to its end; its places are checked.
func told(t *testing.T, it iter.Seq2[int, api.Row]) []api.Row {
	t.Helper()
	var out []api.Row
	for i, r := range it {
		if i != len(out) {
			t.Fatalf("place %d, not %d", i, len(out))
		}
		out = append(out, r)
	}
	return out
}

// askedDays are days with rows and without, and some that have no slots.
func askedDays() []int {
	return []int{0, 1, 2, 3, 10, (1 << 32) / api.Day, lastDay - 1, lastDay, lastDay + 1, -1, -2, api.Slots, 1 << 58, -1 << 58, 1<<58 + 1, math.MaxInt / api.Day, math.MaxInt/api.Day + 1, math.MaxInt, math.MinInt, math.MinInt + 1}
}

// holds checks all that rows in memory tell.
func holds(t *testing.T, m *mem.Mem, s slow) {
	t.Helper()
	want := s.rows()
	if got := m.Len(); got != len(want) {
		t.Fatalf("Len is %d, not %d", got, len(want))
	}
	if got := m.Rows(); !equal(got, want) {
		t.Fatalf("Rows are %s, not %s", brief(got...), brief(want...))
	}
	if got := m.Shared(); !equal(got, want) {
		t.Fatalf("Shared are %s, not %s", brief(got...), brief(want...))
	}
	if got := told(t, m.Each()); !equal(got, want) {
		t.Fatalf("Each tells %s, not %s", brief(got...), brief(want...))
	}
	if got := m.Days(); !slices.Equal(got, s.days()) {
		t.Fatalf("Days are %v, not %v", got, s.days())
	}
	for _, day := range append(askedDays(), s.days()...) {
		if got := m.Day(day); !equal(got, ofDay(want, day)) {
			t.Fatalf("Day(%d) is %s, not %s", day, brief(got...), brief(ofDay(want, day)...))
		}
	}
}

// both adds a row to both.
func both(t *testing.T, m *mem.Mem, s *slow, r api.Row) {
	t.Helper()
	if e := m.Add(r); e != api.OK {
		t.Fatalf("Add of %s is %v", brief(r), e)
	}
	s.add(r)
}

// made are the sketches that row takes copies of.
var made = sketches()

// row is one of a set, an At and a sketch by their places.
func row(i, j, k int) api.Row {
	return copied(api.Row{Labels: sets()[i%len(sets())], At: slots()[j%len(slots())], S: made[k%len(made)]})
}

// drawn are rows of all kinds, some of one set and At.
func drawn(t *testing.T, seed, n int) (*mem.Mem, slow) {
	t.Helper()
	d := draws(seed)
	m := mem.New()
	var s slow
	for range n {
		both(t, m, &s, d.row())
	}
	return m, s
}

func (d *draws) row() api.Row {
	return row(d.below(99), d.below(99), d.below(99))
}

// many are a row of each set at each slot.
func many(t *testing.T) (*mem.Mem, slow) {
	t.Helper()
	m := mem.New()
	var s slow
	for i := range sets() {
		for j := range slots() {
			both(t, m, &s, row(i, j, i+j))
		}
	}
	return m, s
}

func TestExample(t *testing.T) { // P18.1, P18.2: the chapter's
	m := mem.New()
	r := api.Row{Labels: set("a", "1"), At: 3, S: pair.Of([]api.Obs{{Value: 5, Item: "i"}})}
	for range 2 {
		if e := m.Add(r); e != api.OK {
			t.Fatal(e)
		}
	}
	if got := m.Rows(); len(got) != 1 || m.Len() != 1 || got[0].S.Hist[0].N != 2 || len(got[0].S.Hashes) != 1 || got[0].S.Gauge.N != 2 {
		t.Error(brief(got...))
	}
}

func TestNone(t *testing.T) { // P18.1, P18.2: nothing has come
	m := mem.New()
	holds(t, m, nil)
	for _, x := range matchers() {
		if n := m.Delete(x, 0, api.Slots); n != 0 {
			t.Errorf("%d are gone", n)
		}
	}
	m.Clear()
	holds(t, m, nil)
}

func TestOrderOfTheSets(t *testing.T) { // the tests' own lists: they are what they are said to be
	for i, l := range sets() {
		if !label.Check(l) || i > 0 && label.Cmp(sets()[i-1], l) != -1 {
			t.Errorf("%q", l)
		}
	}
	if slices.IsSortedFunc(sets(), func(a, b []api.Label) int { return strings.Compare(label.Text(a), label.Text(b)) }) {
		t.Error("the texts are in order too")
	}
	for _, s := range sketches() {
		if !pair.Check(s) {
			t.Errorf("%v", s)
		}
	}
	for _, s := range wrongSketches() {
		if pair.Check(s) {
			t.Errorf("%v", s)
		}
	}
	for _, l := range wrongSets() {
		if label.Check(l) {
			t.Errorf("%q", l)
		}
	}
}

func TestAddOne(t *testing.T) { // P18.1: the row has the sketch as it is; an empty one makes a row too
	for i := range sets() {
		for j := range slots() {
			for k := range sketches() {
				m := mem.New()
				r := row(i, j, k)
				if e := m.Add(r); e != api.OK {
					t.Fatalf("Add of %s is %v", brief(r), e)
				}
				if got := m.Rows(); len(got) != 1 || !same(got[0], r) {
					t.Fatalf("%s became %s", brief(r), brief(got...))
				}
			}
		}
	}
}

func TestAddAll(t *testing.T) { // P18.1, P18.2: each set and slot has a row of its own
	m, s := many(t)
	holds(t, m, s)
	if m.Len() != len(sets())*len(slots()) {
		t.Errorf("%d rows", m.Len())
	}
}

func TestAddToARow(t *testing.T) { // P18.1: Merge, part by part, held at its limits
	for i, a := range sketches() {
		for j, b := range sketches() {
			m := mem.New()
			var s slow
			both(t, m, &s, row(3, 4, i))
			both(t, m, &s, row(3, 4, j))
			want, e := pair.Merge(a, b)
			if got := m.Rows(); e != api.OK || len(got) != 1 || !pair.Same(got[0].S, want) {
				t.Errorf("sketches %d and %d are %s", i, j, brief(got...))
			}
			both(t, m, &s, row(3, 4, i+j))
			holds(t, m, s)
		}
	}
}

func TestRefused(t *testing.T) { // P18.1: labels, sketch and At, each alone and together; nothing is left behind
	right := row(5, 4, 2)
	var wrong []api.Row
	for _, l := range wrongSets() {
		wrong = append(wrong, api.Row{Labels: l, At: right.At, S: right.S}, api.Row{Labels: l, At: -1})
	}
	for _, at := range []int{-1, -2, -api.Day, math.MinInt, api.Slots, api.Slots + 1, math.MaxInt} {
		wrong = append(wrong, api.Row{Labels: right.Labels, At: at, S: right.S}, api.Row{Labels: set("new", "1"), At: at})
	}
	for _, s := range wrongSketches() {
		wrong = append(wrong, api.Row{Labels: right.Labels, At: right.At, S: s}, api.Row{Labels: right.Labels, At: 77, S: s}, api.Row{Labels: set("new", "1"), At: right.At, S: s}, api.Row{S: s})
	}
	for n := range 3 {
		m := mem.New()
		var s slow
		for i := range n {
			// Two of these sets have the texts of lists that are none.
			both(t, m, &s, row(5-i, 4, 2))
			both(t, m, &s, row(24+i, 4, 2))
		}
		for _, r := range wrong {
			if e := m.Add(r); e != api.ErrInvalid {
				t.Errorf("Add of %s is %v", brief(r), e)
			}
			holds(t, m, s)
		}
	}
}

func TestDelete(t *testing.T) { // P18.1: from the first slot on, below the last; the sets that are meant; how many
	bounds := []int{math.MinInt, -1, 0, 1, 2, 9, 10, 11, api.Day - 1, api.Day, api.Day + 1, lastDay * api.Day, api.Slots - 1, api.Slots, math.MaxInt}
	for place, x := range matchers() {
		for _, from := range bounds {
			for _, to := range bounds {
				m := mem.New()
				var s slow
				for i := range 14 {
					both(t, m, &s, row(i*7, i*15, 0))
				}
				want := s.delete(x, from, to)
				if got := m.Delete(x, from, to); got != want {
					t.Fatalf("Delete(%d, %d) of matcher %d is %d, not %d", from, to, place, got, want)
				}
				if got := m.Rows(); !equal(got, s.rows()) {
					t.Fatalf("Delete(%d, %d) of matcher %d leaves %s, not %s", from, to, place, brief(got...), brief(s.rows()...))
				}
			}
		}
	}
}

func TestDeleteEachMatcher(t *testing.T) { // P18.1: of all sets, twice: then none is left to go
	for place, x := range matchers() {
		m, s := many(t)
		want := s.delete(x, 5, 2*api.Day)
		if got := m.Delete(x, 5, 2*api.Day); got != want {
			t.Errorf("Delete of matcher %d is %d, not %d", place, got, want)
		}
		holds(t, m, s)
		if got := m.Delete(x, 5, 2*api.Day); got != 0 {
			t.Errorf("Delete of matcher %d is %d again", place, got)
		}
		holds(t, m, s)
	}
}

func TestAddBehindDelete(t *testing.T) { // P18.1: what is gone has left nothing behind
	m := mem.New()
	var s slow
	for k := range sketches() {
		both(t, m, &s, row(3, 4, k))
		both(t, m, &s, row(4, 4, k))
		both(t, m, &s, row(3, 5, k))
		holds(t, m, s)
		if n := m.Delete(api.Matcher{}, slots()[4], slots()[4]+1); n != 2 || s.delete(api.Matcher{}, slots()[4], slots()[4]+1) != 2 {
			t.Errorf("%d are gone", n)
		}
		holds(t, m, s)
	}
	if n := m.Delete(api.Matcher{}, 0, api.Slots); n != 1 {
		t.Errorf("%d are gone", n)
	}
	holds(t, m, nil)
}

func TestClear(t *testing.T) { // the given call: all rows are gone, and may come again
	m, _ := many(t)
	it := m.Each()
	m.Clear()
	holds(t, m, nil)
	if got := told(t, it); len(got) != len(sets())*len(slots()) {
		t.Errorf("%d rows were there", len(got))
	}
	var s slow
	both(t, m, &s, row(3, 4, 2))
	holds(t, m, s)
}

func TestDay(t *testing.T) { // P18.2: from its first slot to its last one, of each series; no other day's
	m := mem.New()
	for _, day := range []int{0, 1, 7, lastDay - 1, lastDay} {
		for _, at := range []int{day*api.Day - 1, day * api.Day, day*api.Day + 17, (day+1)*api.Day - 1, (day + 1) * api.Day} {
			for _, i := range []int{9, 3} {
				m.Add(api.Row{Labels: sets()[i], At: at})
			}
		}
	}
	for _, x := range []struct {
		day  int
		want []int
	}{
		{0, []int{0, 17, 8639}}, {1, []int{8640, 8657, 17279}}, {2, []int{17280}}, {6, []int{60479}}, {7, []int{60480, 60497, 69119}}, {8, []int{69120}},
		{lastDay - 2, []int{(lastDay-1)*api.Day - 1}}, {lastDay, []int{lastDay * api.Day, lastDay*api.Day + 17}},
	} {
		var want, got []int
		for _, r := range m.Day(x.day) {
			got = append(got, r.At)
		}
		if want = append(append(want, x.want...), x.want...); !slices.Equal(got, want) {
			t.Errorf("Day(%d) is %v, not %v", x.day, got, want)
		}
	}
	for _, day := range []int{-1, 3, 5, 9, lastDay + 1, 1 << 58, -1 << 58, math.MaxInt, math.MinInt} {
		if got := m.Day(day); len(got) != 0 {
			t.Errorf("Day(%d) is %v", day, got)
		}
	}
	if got := m.Days(); !slices.Equal(got, []int{0, 1, 2, 6, 7, 8, lastDay - 2, lastDay - 1, lastDay}) {
		t.Errorf("Days are %v", got)
	}
}

func TestTheLastDayIsShort(t *testing.T) { // P18.2: the last slot of all is on it
	m := mem.New()
	var s slow
	both(t, m, &s, api.Row{Labels: set("a", "1"), At: api.Slots - 1})
	holds(t, m, s)
	if len(m.Day(127258290)) != 1 || !slices.Equal(m.Days(), []int{127258290}) {
		t.Errorf("%v", m.Days())
	}
}

func TestEachLeftAndGoneThroughAgain(t *testing.T) { // P18.2, R6
	m, s := drawn(t, 1, 40)
	it, want := m.Each(), s.rows()
	for n := range want {
		var seen []api.Row
		for i, r := range it {
			if i != len(seen) {
				t.Fatalf("place %d", i)
			}
			seen = append(seen, r)
			if len(seen) == n+1 {
				break
			}
		}
		if !equal(seen, want[:n+1]) {
			t.Fatalf("the first %d are %s", n+1, brief(seen...))
		}
	}
	rounds := 0
	for range it {
		if got := told(t, it); !equal(got, want) {
			t.Fatalf("within itself it tells %s", brief(got...))
		}
		rounds++
	}
	if rounds != len(want) {
		t.Errorf("it goes round %d times", rounds)
	}
}

func TestEachTellsWhatWasThere(t *testing.T) { // P18.2, R6: whatever comes and goes ahead of the loop and within it
	m, s := drawn(t, 2, 60)
	old, want := m.Each(), s.rows()
	d := draws(3)
	for range 60 {
		both(t, m, &s, d.row())
	}
	m.Delete(matchers()[1], 0, api.Slots)
	s.delete(matchers()[1], 0, api.Slots)
	if got := told(t, old); !equal(got, want) {
		t.Errorf("it tells %s", brief(got...))
	}
	var seen []api.Row
	now := s.rows()
	for _, r := range m.Each() {
		seen = append(seen, r)
		both(t, m, &s, r)
		both(t, m, &s, d.row())
		if len(seen)%5 == 0 {
			m.Delete(matchers()[4], 0, 400)
			s.delete(matchers()[4], 0, 400)
		}
	}
	if !equal(seen, now) {
		t.Errorf("while rows come and go it tells %s, not %s", brief(seen...), brief(now...))
	}
	if got := told(t, old); !equal(got, want) {
		t.Errorf("at last it tells %s", brief(got...))
	}
	holds(t, m, s)
}

// orders calls f with each order of the places 0 to n - 1.
func orders(n int, f func(l []int)) {
	var grow func(l []int)
	grow = func(l []int) {
		if len(l) == n {
			f(l)
		}
		for i := range n {
			if !slices.Contains(l, i) {
				grow(append(l[:len(l):len(l)], i))
			}
		}
	}
	grow(nil)
}

func TestEachOrderOfFew(t *testing.T) { // P18.3: all orders of rows, some of one set and At, held at their limits
	for _, few := range [][]api.Row{
		{row(3, 4, 2), row(3, 4, 3), row(9, 4, 2), row(3, 0, 4), row(0, 11, 0)},
		{row(3, 4, 4), row(3, 4, 5), row(3, 4, 4), row(3, 4, 0), row(3, 4, 2)},
		{row(3, 4, 6), row(3, 4, 7), row(3, 4, 8), row(3, 4, 10), row(3, 4, 11)},
		{row(3, 4, 6), row(3, 4, 6), row(4, 4, 9), row(4, 4, 10), row(3, 4, 3)},
	} {
		var s slow
		for _, r := range few {
			s.add(r)
		}
		orders(len(few), func(l []int) {
			m := mem.New()
			for _, i := range l {
				m.Add(few[i])
			}
			if got := m.Rows(); !equal(got, s.rows()) {
				t.Fatalf("in the order %v they are %s", l, brief(got...))
			}
			if got := told(t, m.Each()); !equal(got, s.rows()) || m.Len() != len(s) || !slices.Equal(m.Days(), s.days()) {
				t.Fatalf("in the order %v they are %s", l, brief(got...))
			}
		})
	}
}

func TestDrawnOrders(t *testing.T) { // P18.3: many rows, turned round and mixed
	d := draws(5)
	var rows []api.Row
	var s slow
	for range 150 {
		rows = append(rows, d.row())
		s.add(rows[len(rows)-1])
	}
	slices.Reverse(rows)
	for range 8 {
		m := mem.New()
		for _, r := range rows {
			m.Add(r)
		}
		holds(t, m, s)
		for i := range rows {
			j := d.below(i + 1)
			rows[i], rows[j] = rows[j], rows[i]
		}
	}
}

func TestDrawnScripts(t *testing.T) { // P18.1, P18.2: rows come, are refused, are gone, behind one another
	for seed := range 30 {
		d := draws(seed + 100)
		m := mem.New()
		var s slow
		for range 80 {
			switch d.below(8) {
			case 0:
				place, from := d.below(len(matchers())), slots()[d.below(len(slots()))]
				x, to := matchers()[place], from+1<<d.below(41)
				want := s.delete(x, from, to)
				if got := m.Delete(x, from, to); got != want {
					t.Fatalf("Delete(%d, %d) of matcher %d is %d, not %d", from, to, place, got, want)
				}
			case 1:
				r := d.row()
				if r.Labels = wrongSets()[d.below(len(wrongSets()))]; m.Add(r) != api.ErrInvalid {
					t.Fatalf("%s is taken", brief(r))
				}
			case 2:
				r := d.row()
				if r.S = wrongSketches()[d.below(len(wrongSketches()))]; m.Add(r) != api.ErrInvalid {
					t.Fatalf("%s is taken", brief(r))
				}
			default:
				both(t, m, &s, d.row())
			}
			if got := m.Rows(); !equal(got, s.rows()) {
				t.Fatalf("Rows are %s, not %s", brief(got...), brief(s.rows()...))
			}
		}
		holds(t, m, s)
	}
}

func TestManyRows(t *testing.T) { // P18.1, P18.2: a series of all slots of a day, told by numbers, not by texts
	m := mem.New()
	for i := range api.Day {
		if e := m.Add(api.Row{Labels: set("a", "1"), At: i * 7919 % api.Day, S: api.Sketch{Gauge: api.Gauge{NaNs: uint64(i*7919%api.Day) + 1}}}); e != api.OK {
			t.Fatal(e)
		}
	}
	for i, r := range m.Each() {
		if r.At != i || r.S.Gauge.NaNs != uint64(i)+1 {
			t.Fatalf("row %d is %v", i, r)
		}
	}
	if m.Len() != api.Day || len(m.Day(0)) != api.Day || m.Delete(api.Matcher{}, 100, 200) != 100 || m.Len() != api.Day-100 {
		t.Errorf("%d rows", m.Len())
	}
}
