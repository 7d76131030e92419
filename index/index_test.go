package index_test

import (
	"iter"
	"math"
	"slices"
	"strconv"
	"strings"
	"testing"

	"varve/api"
	"varve/index"
	"varve/label"
)

// most is how many sets have a number at most.
const most = 4096

// draws are numbers without an order, the same ones for the same seed.
type draws uint64

// below is one from 0 to n - 1.
func (d *draws) below(n int) int {
	*d = *d*6364136223846793005 + 1442695040888963407
	return int(uint64(*d) >> 33 % uint64(n))
}

// names are those that drawn sets have labels of; they rise.
func names() []string {
	return []string{"_", "a", "a0", "b", "job", strings.Repeat("q", 31), strings.Repeat("q", 32), "z_9"}
}

// values are those that drawn sets have: few, so that many have the same; one the beginning of another; any bytes.
func values() []string {
	return []string{"1", "10", "100", "2", "\x00", "\xff", "\x80", `"`, `\`, `x",a="1`, "é", strings.Repeat("v", 63), strings.Repeat("v", 64)}
}

// set is a set that label's Check allows.
func (d *draws) set() []api.Label {
	var l []api.Label
	for _, name := range names() {
		if d.below(3) == 0 {
			l = append(l, api.Label{Name: name, Value: values()[d.below(len(values()))]})
		}
	}
	if l == nil {
		return d.set()
	}
	return l
}

// set is labels by names and values in turn.
func set(l ...string) []api.Label {
	var out []api.Label
	for i := 0; i < len(l); i += 2 {
		out = append(out, api.Label{Name: l[i], Value: l[i+1]})
	}
	return out
}

// numbered is a set by a number, another one for each.
func numbered(i int) []api.Label {
	return set("n", strconv.Itoa(i), "odd", strconv.Itoa(i%2))
}

// wrong are lists that label's Check does not allow. Some of them have the text of a set that it allows.
func wrong() [][]api.Label {
	nine := make([]api.Label, 9)
	for i := range nine {
		nine[i] = api.Label{Name: "a" + strconv.Itoa(i), Value: "v"}
	}
	return [][]api.Label{
		nil, {}, set("", ""), set("a", ""), set("", "1"), set("A", "1"), set("0", "1"), set("a b", "1"),
		set("b", "x", "a", "1"), set("a", "1", "a", "1"), set("a", "1", "a", "2"), set("a", "1", "b", ""), set("a", "", "b", "x"),
		set(strings.Repeat("n", 33), "1"), set("a", strings.Repeat("v", 65)), nine, make([]api.Label, 1000),
		set(`a="1",b`, "x"), set(`a="2",b`, "x"), set(`_="1",a`, "1"),
	}
}

// slow is what an index is by the chapter's words: the sets in the order in which they came.
type slow [][]api.Label

// add takes a set that is allowed, if it is not there.
func (s slow) add(l []api.Label) slow {
	for _, one := range s {
		if slices.Equal(one, l) {
			return s
		}
	}
	return append(s, slices.Clone(l))
}

// keep are the numbers of the sets that a test keeps.
func (s slow) keep(test func(l []api.Label) bool) []int {
	var out []int
	for id, l := range s {
		if test(l) {
			out = append(out, id)
		}
	}
	return out
}

func (s slow) post(name, value string) []int {
	return s.keep(func(l []api.Label) bool { return label.Value(l, name) == value })
}

// count is a value and how many have it.
type count struct {
	value string
	n     int
}

// values are those of a name, the least one first.
func (s slow) values(name string) []count {
	var all []string
	for _, l := range s {
		if value := label.Value(l, name); value != "" {
			all = append(all, value)
		}
	}
	slices.Sort(all)
	var out []count
	for _, value := range slices.Compact(slices.Clone(all)) {
		n := 0
		for _, one := range all {
			if one == value {
				n++
			}
		}
		out = append(out, count{value, n})
	}
	return out
}

// of is an index with sets, each taken as the next one.
func of(t *testing.T, l ...[]api.Label) *index.Index {
	t.Helper()
	x := index.New()
	for i, one := range l {
		if id, e := x.ID(one); id != i || e != api.OK {
			t.Fatalf("ID(%q) is %d, %v, not %d", one, id, e, i)
		}
	}
	return x
}

// drawn are so many sets, each once.
func drawn(seed, n int) slow {
	d := draws(seed)
	var s slow
	for len(s) < n {
		s = s.add(d.set())
	}
	return s
}

// told is what an iterator of values tells, to its end.
func told(it iter.Seq2[string, int]) []count {
	var out []count
	for value, n := range it {
		out = append(out, count{value, n})
	}
	return out
}

// askedNames are names of labels, of none, and texts that are no names.
func askedNames() []string {
	return append(names(), "", "none", "A", "0", "a=", `a="1"`, "n", "odd", "\x00", strings.Repeat("q", 33), strings.Repeat("z", 1000))
}

// askedValues are values of labels, of none, and texts that no label may have.
func askedValues() []string {
	return append(values(), "", "none", "0", "v", "\x00\x00", strings.Repeat("v", 65), strings.Repeat("z", 1000))
}

// holds checks all that an index tells against its sets.
func holds(t *testing.T, x *index.Index, s slow) {
	t.Helper()
	if got := x.Len(); got != len(s) {
		t.Fatalf("Len is %d, not %d", got, len(s))
	}
	for id, want := range s {
		if got, ok := x.Find(want); got != id || !ok {
			t.Fatalf("Find(%q) is %d, %t, not %d", want, got, ok, id)
		}
		if got, ok := x.Labels(id); !slices.Equal(got, want) || !ok {
			t.Fatalf("Labels(%d) is %q, %t, not %q", id, got, ok, want)
		}
	}
	for _, id := range []int{-1, len(s), len(s) + 1, most, math.MinInt, math.MaxInt} {
		if got, ok := x.Labels(id); got != nil || ok {
			t.Fatalf("Labels(%d) is %q, %t", id, got, ok)
		}
	}
	for _, name := range askedNames() {
		for _, value := range askedValues() {
			if got, want := x.Post(name, value), s.post(name, value); !slices.Equal(got, want) {
				t.Fatalf("Post(%q, %q) is %v, not %v", name, value, got, want)
			}
		}
		if got, want := told(x.Values(name)), s.values(name); !slices.Equal(got, want) {
			t.Fatalf("Values(%q) tells %v, not %v", name, got, want)
		}
	}
	for _, m := range right() {
		selects(t, x, s, m)
	}
}

func TestExamples(t *testing.T) { // P14.1, P14.2: the chapter's
	x := index.New()
	if id, e := x.ID(set("a", "1")); id != 0 || e != api.OK {
		t.Errorf("ID is %d, %v", id, e)
	}
	if got := x.Post("b", ""); !slices.Equal(got, []int{0}) {
		t.Errorf("Post is %v", got)
	}
}

func TestNone(t *testing.T) { // P14.1, P14.2, P14.3: nothing has come
	x := index.New()
	holds(t, x, nil)
	if id, ok := x.Find(set("a", "1")); id != -1 || ok {
		t.Errorf("Find is %d, %t", id, ok)
	}
}

func TestNumbers(t *testing.T) { // P14.1: the next one, from 0 on, whatever was asked between
	s := drawn(1, 300)
	x := index.New()
	for i, l := range s {
		if id, ok := x.Find(l); id != -1 || ok {
			t.Fatalf("Find(%q) is %d, %t ahead of ID", l, id, ok)
		}
		for range 3 {
			if id, e := x.ID(l); id != i || e != api.OK || x.Len() != i+1 {
				t.Fatalf("ID(%q) is %d, %v of %d", l, id, e, x.Len())
			}
		}
		for _, ahead := range []int{0, i / 2, i} {
			if id, e := x.ID(s[ahead]); id != ahead || e != api.OK {
				t.Fatalf("ID(%q) is %d, %v", s[ahead], id, e)
			}
		}
	}
	holds(t, x, s)
}

func TestNearSets(t *testing.T) { // P14.1: sets that are nearly the same have each its own number
	s := slow{
		set("a", "1"), set("a", "2"), set("a", "1", "b", "2"), set("a", "11"), set("b", "1"), set("a1", "1"), set("a", "1 "),
		set("a", `1",b="2`), set("a", `1\`), set("a", `1\\`), set("a", `1"`), set("a", `1\"`), set("a", `\x00`), set("a", "\x00"),
		set("a", "1", "b", "1"), set("ab", "1"), set("a", "b"), set("a", "1", "b", "1", "c", "1"), set("a", "1", "c", "1"),
		set("a", "\xff"), set("a", "\xfe"), set("a", "�"), set("a", "\xc3"), set("a", "é"), set("a", "e"),
	}
	holds(t, of(t, s...), s)
}

func TestLongestSets(t *testing.T) { // P14.1: as many labels as may be, as long as may be
	var s slow
	for i := range 4 {
		var l []api.Label
		for j := range api.MaxLabels {
			l = append(l, api.Label{Name: strings.Repeat("n", api.MaxName-1) + string(rune('a'+j)), Value: strings.Repeat("v", api.MaxValue-1) + strconv.Itoa(i*j%3)})
		}
		s = s.add(l)
	}
	holds(t, of(t, s...), s)
}

func TestRefused(t *testing.T) { // P14.1: what Check does not allow has no number, and leaves nothing behind
	s := slow{set("a", "1", "b", "x"), set("a", "1"), set("_", "1", "a", "1")}
	for n := range len(s) + 1 {
		x := of(t, s[:n]...)
		for _, l := range wrong() {
			if label.Check(l) {
				t.Fatalf("%q is allowed", l)
			}
			if id, e := x.ID(l); id != -1 || e != api.ErrInvalid {
				t.Errorf("ID(%q) is %d, %v", l, id, e)
			}
			if id, ok := x.Find(l); id != -1 || ok {
				t.Errorf("Find(%q) is %d, %t", l, id, ok)
			}
		}
		holds(t, x, s[:n])
		if id, e := x.ID(set("next", "1")); id != n || e != api.OK {
			t.Errorf("the next one is %d, %v", id, e)
		}
	}
}

func TestFull(t *testing.T) { // P14.1: 4096 sets, no more; those that have a number keep it
	x := index.New()
	var s slow
	for i := range most {
		s = append(s, numbered(i))
		if id, e := x.ID(s[i]); id != i || e != api.OK {
			t.Fatalf("ID is %d, %v, not %d", id, e, i)
		}
	}
	for _, l := range [][]api.Label{numbered(most), set("n", "0"), set("a", "1"), set("a", "1", "b", "2")} {
		for range 2 {
			if id, e := x.ID(l); id != -1 || e != api.ErrFull {
				t.Errorf("ID(%q) is %d, %v", l, id, e)
			}
		}
		if id, ok := x.Find(l); id != -1 || ok {
			t.Errorf("Find(%q) is %d, %t", l, id, ok)
		}
	}
	for _, l := range wrong() {
		if id, e := x.ID(l); id != -1 || e != api.ErrInvalid {
			t.Errorf("ID(%q) is %d, %v", l, id, e)
		}
	}
	for i, l := range s {
		if id, e := x.ID(l); id != i || e != api.OK {
			t.Fatalf("ID(%q) is %d, %v", l, id, e)
		}
	}
	holds(t, x, s)
}

func TestPost(t *testing.T) { // P14.2
	s := slow{set("a", "1"), set("a", "2", "b", "x"), set("b", "x"), set("a", "1", "b", "y"), set("c", "1")}
	x := of(t, s...)
	for _, one := range []struct {
		name, value string
		want        []int
	}{
		{"a", "1", []int{0, 3}}, {"a", "2", []int{1}}, {"a", "3", nil}, {"b", "x", []int{1, 2}}, {"b", "y", []int{3}}, {"b", "1", nil},
		{"a", "", []int{2, 4}}, {"b", "", []int{0, 4}}, {"c", "", []int{0, 1, 2, 3}}, {"d", "", []int{0, 1, 2, 3, 4}}, {"d", "1", nil},
		{"", "", []int{0, 1, 2, 3, 4}}, {"", "1", nil}, {"A", "", []int{0, 1, 2, 3, 4}}, {`a="1"`, "", []int{0, 1, 2, 3, 4}},
	} {
		if got := x.Post(one.name, one.value); !slices.Equal(got, one.want) {
			t.Errorf("Post(%q, %q) is %v", one.name, one.value, got)
		}
	}
	if got := of(t, set("a", "1")).Post("a", ""); len(got) != 0 {
		t.Errorf("all have it: %v", got)
	}
}

func TestValues(t *testing.T) { // P14.2: by bytes, the counts beside them
	s := slow{
		set("a", "b"), set("a", "\xff"), set("a", "B"), set("a", "ab"), set("a", "a"), set("a", "\x00"), set("a", "é"), set("a", "10"), set("a", "9"),
		set("a", "b", "c", "1"), set("a", "b", "c", "2"), set("c", "1"), set("a", "9", "c", "1"), set("c", "3"),
	}
	x := of(t, s...)
	want := []count{{"\x00", 1}, {"10", 1}, {"9", 2}, {"B", 1}, {"a", 1}, {"ab", 1}, {"b", 3}, {"é", 1}, {"\xff", 1}}
	if got := told(x.Values("a")); !slices.Equal(got, want) {
		t.Errorf("Values(a) tells %v", got)
	}
	if got := told(x.Values("c")); !slices.Equal(got, []count{{"1", 3}, {"2", 1}, {"3", 1}}) {
		t.Errorf("Values(c) tells %v", got)
	}
	for _, name := range []string{"", "b", "A", "aa", "\x00", strings.Repeat("a", 100)} {
		if got := told(x.Values(name)); got != nil {
			t.Errorf("Values(%q) tells %v", name, got)
		}
	}
}

func TestAllOfDrawnSets(t *testing.T) { // P14.1, P14.2, P14.3
	for i, n := range []int{1, 2, 3, 5, 8, 20, 100, 500} {
		s := drawn(100+i, n)
		holds(t, of(t, s...), s)
	}
}

func TestAllAtEachSet(t *testing.T) { // P14.1, P14.2, P14.3: behind each set that comes
	s := drawn(7, 25)
	x := index.New()
	for n, l := range s {
		x.ID(l)
		holds(t, x, s[:n+1])
	}
}

func TestValuesLeftAndGoneThroughAgain(t *testing.T) { // P14.2, R6
	s := drawn(3, 60)
	x := of(t, s...)
	for _, name := range names() {
		it, want := x.Values(name), s.values(name)
		for n := range want {
			var seen []count
			for value, k := range it {
				seen = append(seen, count{value, k})
				if len(seen) == n+1 {
					break
				}
			}
			if !slices.Equal(seen, want[:n+1]) {
				t.Fatalf("the first %d of Values(%q) are %v", n+1, name, seen)
			}
		}
		for range 3 {
			if got := told(it); !slices.Equal(got, want) {
				t.Fatalf("Values(%q) tells %v", name, got)
			}
		}
		rounds := 0
		for range it {
			if got := told(it); !slices.Equal(got, want) {
				t.Fatalf("Values(%q) within itself tells %v", name, got)
			}
			rounds++
		}
		if rounds != len(want) {
			t.Fatalf("Values(%q) goes round %d times", name, rounds)
		}
	}
}

func TestValuesTellWhatWasThere(t *testing.T) { // P14.2, R6: sets that come later, ahead of the loop and within it, are not told
	s := slow{set("a", "1"), set("a", "3"), set("a", "3", "b", "x")}
	x := of(t, s...)
	old, none := x.Values("a"), x.Values("later")
	s = append(s, set("a", "0"), set("a", "2"), set("a", "3", "b", "y"), set("later", "1"))
	for _, l := range s[3:] {
		x.ID(l)
	}
	want := []count{{"1", 1}, {"3", 2}}
	if got := told(old); !slices.Equal(got, want) {
		t.Errorf("it tells %v", got)
	}
	if got := told(none); got != nil {
		t.Errorf("it tells %v of a name that nobody had", got)
	}
	var seen []count
	for value, n := range x.Values("a") {
		seen = append(seen, count{value, n})
		for i := range 5 {
			s = s.add(set("a", value+strconv.Itoa(i)))
			x.ID(s[len(s)-1])
		}
	}
	if !slices.Equal(seen, []count{{"0", 1}, {"1", 1}, {"2", 1}, {"3", 3}}) {
		t.Errorf("while sets come it tells %v", seen)
	}
	if got := told(old); !slices.Equal(got, want) {
		t.Errorf("at last it tells %v", got)
	}
	holds(t, x, s)
}

func TestHandedInIsNeitherChangedNorKept(t *testing.T) { // R3: spare room too
	s := drawn(5, 40)
	x := index.New()
	for i, l := range s {
		room := append(slices.Clone(l), set("spare", "1", "room", "2")...)
		handed := room[:len(l)]
		if id, e := x.ID(handed); id != i || e != api.OK {
			t.Fatalf("ID is %d, %v", id, e)
		}
		x.ID(handed)
		x.Find(handed)
		if !slices.Equal(room, append(slices.Clone(l), set("spare", "1", "room", "2")...)) {
			t.Fatalf("%q became %q", l, room)
		}
		for j := range room {
			room[j] = api.Label{Name: "turned", Value: "t"}
		}
	}
	holds(t, x, s)
}

// turned turns all of a list, its spare room too.
func turned[T any](l []T, to T) {
	l = l[:cap(l)]
	for i := range l {
		l[i] = to
	}
}

func TestAnswersAreNewMemory(t *testing.T) { // R3: what is answered can be turned, and sets that come later turn none of it
	s := drawn(6, 30)
	x := index.New()
	var lists, want [][]int
	for n, l := range s {
		x.ID(l)
		for _, name := range names() {
			for _, value := range []string{"", "1", "\xff", label.Value(l, name)} {
				for range 2 {
					lists = append(lists, x.Post(name, value))
					want = append(want, s[:n+1].post(name, value))
				}
			}
		}
		labels, _ := x.Labels(n)
		turned(labels, api.Label{Name: "turned", Value: "t"})
	}
	for _, m := range right() {
		for range 2 {
			l, _ := x.Select(m)
			lists = append(lists, l)
			want = append(want, s.means(m))
		}
	}
	// Each is looked at ahead of being turned: so what an earlier one shares with it would be seen.
	for i, l := range lists {
		if !slices.Equal(l, want[i]) {
			t.Fatalf("list %d became %v, not %v", i, l, want[i])
		}
		turned(l, -7)
	}
	holds(t, x, s)
}

func TestTwoHaveNothingInCommon(t *testing.T) { // R4
	one, two := drawn(8, 50), drawn(9, 50)
	x, y := index.New(), index.New()
	for i := range 50 {
		x.ID(one[i])
		y.ID(two[i])
	}
	holds(t, x, one)
	holds(t, y, two)
	holds(t, index.New(), nil)
}
