package post_test

import (
	"fmt"
	"iter"
	"math"
	"math/rand"
	"slices"
	"testing"

	"varve/post"
)

// told is what an iterator tells, to its end.
func told(it iter.Seq[int]) []int {
	var out []int
	for v := range it {
		out = append(out, v)
	}
	return out
}

// tells checks what an iterator tells.
func tells(t *testing.T, it iter.Seq[int], want []int, what string, of ...any) {
	t.Helper()
	if it == nil {
		t.Fatalf("%s %v: no iterator", what, of)
	}
	if got := told(it); !slices.Equal(got, want) {
		t.Fatalf("%s %v tells %v, not %v", what, of, got, want)
	}
}

// having is how many of the lists have a number.
func having(l [][]int, v int) int {
	n := 0
	for _, one := range l {
		if slices.Contains(one, v) {
			n++
		}
	}
	return n
}

// wanted are the numbers of lists that a test keeps, rising, each once.
func wanted(l [][]int, keep func(v int) bool) []int {
	all := slices.Concat(l...)
	slices.Sort(all)
	return slices.DeleteFunc(slices.Compact(all), func(v int) bool { return !keep(v) })
}

// most is Most by the chapter's words.
func most(l [][]int, k int) []int {
	if k < 1 {
		return nil
	}
	return wanted(l, func(v int) bool { return having(l, v) >= k })
}

func both(a, b []int) []int {
	return wanted([][]int{a, b}, func(v int) bool { return slices.Contains(a, v) && slices.Contains(b, v) })
}

func without(a, b []int) []int {
	return wanted([][]int{a, b}, func(v int) bool { return slices.Contains(a, v) && !slices.Contains(b, v) })
}

// rising are all the lists that rise over some numbers, the least and the greatest one among them.
func rising() [][]int {
	numbers := []int{math.MinInt, -1, 0, 7, math.MaxInt}
	var out [][]int
	for set := range 1 << len(numbers) {
		var l []int
		for i, v := range numbers {
			if set>>i&1 == 1 {
				l = append(l, v)
			}
		}
		out = append(out, l)
	}
	return out
}

// falling are lists that do not rise, at the first, the last or another place.
func falling() [][]int {
	return [][]int{
		{1, 1}, {2, 1}, {0, 0, 0}, {3, 1, 2}, {1, 3, 2}, {1, 2, 2}, {1, 1, 2}, {1, 2, 3, 4, 4}, {-1, -2}, {1, 2, 1, 2},
		{math.MaxInt, math.MinInt}, {math.MinInt, math.MinInt}, {math.MaxInt, math.MaxInt}, {math.MinInt, 0, math.MaxInt, math.MinInt},
	}
}

// counts are bounds for how many: far below, at and above those of three lists.
func counts() []int {
	return []int{math.MinInt, -3, -1, 0, 1, 2, 3, 4, math.MaxInt}
}

// mixed is a list that rises, of about so many numbers below a bound.
func mixed(r *rand.Rand, n, below int) []int {
	var out []int
	for range n {
		out = append(out, r.Intn(below)-below/2)
	}
	slices.Sort(out)
	return slices.Compact(out)
}

// way is one of the calls that answer an iterator, of three lists as far as it takes them.
type way struct {
	name string
	ask  func(l [][]int) iter.Seq[int]
	want func(l [][]int) []int
	of   int // how many lists it looks at
}

func ways() []way {
	return []way{
		{"From", func(l [][]int) iter.Seq[int] { return post.From(l[0]) }, func(l [][]int) []int { return l[0] }, 1},
		{"And", func(l [][]int) iter.Seq[int] { return post.And(l[0], l[1]) }, func(l [][]int) []int { return both(l[0], l[1]) }, 2},
		{"Less", func(l [][]int) iter.Seq[int] { return post.Less(l[0], l[1]) }, func(l [][]int) []int { return without(l[0], l[1]) }, 2},
		{"Or", func(l [][]int) iter.Seq[int] { return post.Or(l...) }, func(l [][]int) []int { return most(l, 1) }, 3},
		{"Most 1", func(l [][]int) iter.Seq[int] { return post.Most(l, 1) }, func(l [][]int) []int { return most(l, 1) }, 3},
		{"Most 2", func(l [][]int) iter.Seq[int] { return post.Most(l, 2) }, func(l [][]int) []int { return most(l, 2) }, 3},
		{"Most 3", func(l [][]int) iter.Seq[int] { return post.Most(l, 3) }, func(l [][]int) []int { return most(l, 3) }, 3},
	}
}

// three are lists of which each way tells two numbers at least.
func three() [][]int {
	return [][]int{{1, 2, 4, 5, 6, 9}, {2, 3, 6, 8, 9}, {0, 2, 6, 7, 9, 11}}
}

func TestExamples(t *testing.T) { // P13.1: the chapter's
	tells(t, post.And([]int{1, 3, 5}, []int{3, 4, 5}), []int{3, 5}, "And")
	tells(t, post.Most([][]int{{1, 2}, {2, 3}, {2}}, 2), []int{2}, "Most")
}

func TestRises(t *testing.T) { // P13.1: every list of at most five numbers over three
	var all func(l []int)
	all = func(l []int) {
		want := true
		for i := range l {
			for j := range i {
				want = want && l[j] < l[i]
			}
		}
		if got := post.Rises(l); got != want {
			t.Errorf("Rises(%v) is %v", l, got)
		}
		for _, v := range []int{math.MinInt, 0, math.MaxInt} {
			if len(l) < 5 {
				all(append(slices.Clone(l), v))
			}
		}
	}
	all(nil)
	all([]int{})
}

func TestRisesOfLongLists(t *testing.T) { // P13.1: one place that is wrong, at each place
	for i := range 100 {
		l := make([]int, 100)
		for j := range l {
			l[j] = 3*j - 150
		}
		if !post.Rises(l) {
			t.Fatal("it rises")
		}
		if i > 0 {
			l[i] = l[i-1]
			if post.Rises(l) {
				t.Errorf("the number at %d is the one ahead", i)
			}
		}
	}
}

func TestFrom(t *testing.T) { // P13.1
	for _, l := range rising() {
		tells(t, post.From(l), l, "From", l)
	}
	tells(t, post.From([]int{}), nil, "From no number")
}

func TestAndLessOrOfTwo(t *testing.T) { // P13.1: each two of all the lists
	for _, a := range rising() {
		for _, b := range rising() {
			tells(t, post.And(a, b), both(a, b), "And", a, b)
			tells(t, post.Less(a, b), without(a, b), "Less", a, b)
			tells(t, post.Or(a, b), most([][]int{a, b}, 1), "Or", a, b)
		}
	}
}

func TestOrAndMostOfThree(t *testing.T) { // P13.1: each three of all the lists, each bound
	for _, a := range rising() {
		for _, b := range rising() {
			for _, c := range rising() {
				l := [][]int{a, b, c}
				tells(t, post.Or(a, b, c), most(l, 1), "Or", l)
				for _, k := range counts() {
					tells(t, post.Most(l, k), most(l, k), "Most", l, k)
				}
			}
		}
	}
}

func TestOfNoAndOneList(t *testing.T) { // P13.1
	tells(t, post.Or(), nil, "Or")
	for _, k := range counts() {
		tells(t, post.Most(nil, k), nil, "Most of none", k)
		tells(t, post.Most([][]int{}, k), nil, "Most of none", k)
		tells(t, post.Most([][]int{nil, {}}, k), nil, "Most of no number", k)
	}
	tells(t, post.Or(nil, []int{}), nil, "Or of no number")
	for _, l := range rising() {
		tells(t, post.Or(l), l, "Or", l)
		for _, k := range counts() {
			tells(t, post.Most([][]int{l}, k), most([][]int{l}, k), "Most", l, k)
		}
	}
}

func TestOneListManyTimes(t *testing.T) { // P13.1: it counts as often as it stands there
	l := []int{-4, 0, 3, 9}
	for n := range 9 {
		lists := slices.Repeat([][]int{l}, n)
		for k := -1; k < 11; k++ {
			tells(t, post.Most(lists, k), most(lists, k), "Most", lists, k)
		}
		tells(t, post.Or(lists...), most(lists, 1), "Or", lists)
	}
	tells(t, post.And(l, l), l, "And", l)
	tells(t, post.Less(l, l), nil, "Less", l)
}

func TestMixedLists(t *testing.T) { // P13.1: of unlike lengths, near and far from each other
	r := rand.New(rand.NewSource(13))
	for range 600 {
		var l [][]int
		below := 1 + r.Intn(120)
		for range 2 + r.Intn(12) {
			l = append(l, mixed(r, r.Intn(40), below))
		}
		tells(t, post.And(l[0], l[1]), both(l[0], l[1]), "And", l[:2])
		tells(t, post.Less(l[0], l[1]), without(l[0], l[1]), "Less", l[:2])
		tells(t, post.Or(l...), most(l, 1), "Or", l)
		for k := range len(l) + 2 {
			tells(t, post.Most(l, k), most(l, k), "Most", l, k)
		}
	}
}

func TestManyLists(t *testing.T) { // P13.1: so many that none may be asked for every number
	const n = 200000
	var one, two [][]int
	var want []int
	for i := range n {
		one = append(one, []int{n - i})
		two = append(two, []int{i * 7 % n, n + i})
		want = append(want, i+1)
	}
	tells(t, post.Or(one...), want, "Or of many")
	tells(t, post.Most(append(one, one[0], one[n-1]), 2), []int{1, n}, "Most of many")
	if got := told(post.Or(two...)); len(got) != 2*n || got[0] != 0 || got[2*n-1] != 2*n-1 || !post.Rises(got) {
		t.Errorf("Or of lists of two tells %d numbers", len(got))
	}
	if got := told(post.Most(append(two, want), 2)); !slices.Equal(got, want) {
		t.Errorf("Most of lists of two and a long one tells %d numbers", len(got))
	}
}

func TestLongLists(t *testing.T) { // P13.1
	var even, thirds, sixths, odd []int
	for i := range 300000 {
		if i%2 == 0 {
			even = append(even, i)
		} else {
			odd = append(odd, i)
		}
		if i%3 == 0 {
			thirds = append(thirds, i)
		}
		if i%6 == 0 {
			sixths = append(sixths, i)
		}
	}
	tells(t, post.And(even, thirds), sixths, "And of long ones")
	tells(t, post.And(even, odd), nil, "And of long ones apart")
	tells(t, post.Less(even, odd), even, "Less of long ones apart")
	if got := told(post.Less(thirds, even)); len(got) != 50000 || got[0] != 3 || got[49999] != 299997 {
		t.Errorf("Less of long ones tells %d numbers", len(got))
	}
	if got := told(post.Or(even, odd)); len(got) != 300000 || got[299999] != 299999 || !post.Rises(got) {
		t.Errorf("Or of long ones tells %d numbers", len(got))
	}
}

func TestOfAListThatDoesNotRise(t *testing.T) { // P13.1: wherever it stands
	for _, bad := range falling() {
		if post.Rises(bad) {
			t.Errorf("Rises(%v)", bad)
		}
		for _, w := range ways() {
			for i := range w.of {
				for _, good := range [][]int{nil, {0}, {1, 2, 3, 4}, {math.MinInt, math.MaxInt}} {
					l := slices.Repeat([][]int{good}, 3)
					l[i] = bad
					tells(t, w.ask(l), nil, w.name, l)
				}
			}
			tells(t, w.ask(slices.Repeat([][]int{bad}, 3)), nil, w.name, bad)
		}
		tells(t, post.Or(bad), nil, "Or", bad)
		tells(t, post.Most([][]int{bad}, 1), nil, "Most", bad)
	}
}

func TestGoneThroughAgainAndLeftEarly(t *testing.T) { // P13.1, R6
	for _, w := range ways() {
		it, want := w.ask(three()), w.want(three())
		if len(want) < 2 {
			t.Fatalf("%s: too few to be left", w.name)
		}
		for n := range want {
			var seen []int
			for v := range it {
				seen = append(seen, v)
				if len(seen) == n+1 {
					break
				}
			}
			if !slices.Equal(seen, want[:n+1]) {
				t.Errorf("%s left behind %d: %v", w.name, n, seen)
			}
		}
		tells(t, it, want, w.name, "again")
		tells(t, it, want, w.name, "again")
	}
}

func TestALoopInALoop(t *testing.T) { // P13.1, R6: each goes its own way
	for _, w := range ways() {
		it, want := w.ask(three()), w.want(three())
		var outer []int
		for v := range it {
			outer = append(outer, v)
			tells(t, it, want, w.name, "within a loop of its own")
		}
		if !slices.Equal(outer, want) {
			t.Errorf("%s: the outer loop: %v, not %v", w.name, outer, want)
		}
	}
}

func TestALoopThatIsLeftIsAskedNoMore(t *testing.T) { // P13.1, R6
	for _, w := range ways() {
		for n := range w.want(three()) {
			calls := 0
			w.ask(three())(func(int) bool {
				calls++
				return calls <= n
			})
			if calls != n+1 {
				t.Errorf("%s left behind %d: %d calls", w.name, n, calls)
			}
		}
	}
}

// roomy are the lists with spare room behind each, and behind them all, that holds something.
func roomy(l [][]int) (rooms, outer [][]int) {
	for i, one := range l {
		room := append(slices.Clone(one), 1000+i, 2000+i, 3)
		rooms = append(rooms, room)
		outer = append(outer, room[:len(one)])
	}
	return rooms, append(outer, []int{5, 4}, nil)[:len(l)]
}

func TestListsStayAsTheyWere(t *testing.T) { // R3: spare room included
	for _, w := range ways() {
		rooms, l := roomy(three())
		before, _ := roomy(three())
		it := w.ask(l)
		tells(t, it, w.want(three()), w.name)
		post.List(it, 1)
		if !slices.EqualFunc(rooms, before, slices.Equal) {
			t.Errorf("%s changed a list: %v", w.name, rooms)
		}
		if !slices.EqualFunc(l[:len(l)+1], append(three(), []int{5, 4}), slices.Equal) {
			t.Errorf("%s changed the list of lists: %v", w.name, l[:len(l)+1])
		}
		for i := range l {
			if &l[i][0] != &rooms[i][0] {
				t.Errorf("%s: list %d is another one", w.name, i)
			}
		}
	}
}

func TestTellsWhatWasThere(t *testing.T) { // R3, R6: lists that are changed behind the call, ahead of the loop and in it
	for _, w := range ways() {
		rooms, l := roomy(three())
		it, want := w.ask(l), w.want(three())
		for _, room := range rooms {
			for i := range room {
				room[i] = -i
			}
		}
		l[0], l[1] = nil, []int{42}
		tells(t, it, want, w.name, "behind a change")

		_, l = roomy(three())
		it = w.ask(l)
		var got []int
		for v := range it {
			got = append(got, v)
			for _, one := range l {
				clear(one)
			}
		}
		if !slices.Equal(got, want) {
			t.Errorf("%s: changed in the loop: %v, not %v", w.name, got, want)
		}
		tells(t, it, want, w.name, "behind a change in the loop")
	}
}

func TestAListThatRoseWhenAsked(t *testing.T) { // P13.1, R6: and one that did not
	for _, w := range ways() {
		l := three()
		it := w.ask(l)
		l[0][0] = 99
		tells(t, it, w.want(three()), w.name, "of a list that rises no more")
		tells(t, w.ask(l), nil, w.name, "asked anew")
		bad := w.ask(l)
		l[0][0] = 1
		tells(t, bad, nil, w.name, "of a list that rises only now")
	}
}

func TestTwoIteratorsHaveNothingInCommon(t *testing.T) { // R4
	for _, w := range ways() {
		other := [][]int{{2, 100}, {2, 100}, {2, 100}}
		a, b := w.ask(three()), w.ask(other)
		next, stop := iter.Pull(a)
		next()
		tells(t, b, w.want(other), w.name, "beside another")
		tells(t, a, w.want(three()), w.name, "beside another")
		stop()
	}
}

func TestList(t *testing.T) { // P13.2: each bound, around how many there are
	l := []int{math.MinInt, -1, 0, 7, math.MaxInt}
	for n := range len(l) + 1 {
		for _, bound := range []int{math.MinInt, -1, 0, 1, 2, 3, 4, 5, 6, 100, math.MaxInt} {
			want := l[:max(0, min(n, bound))]
			if got := post.List(post.From(l[:n]), bound); !slices.Equal(got, want) {
				t.Errorf("the first %d of %v: %v", bound, l[:n], got)
			}
		}
	}
}

func TestListOfAnyIterator(t *testing.T) { // P13.2: what it tells need not rise
	for _, l := range append(falling(), rising()...) {
		for bound := range len(l) + 2 {
			want := l[:min(bound, len(l))]
			if got := post.List(slices.Values(l), bound); !slices.Equal(got, want) {
				t.Errorf("the first %d of %v: %v", bound, l, got)
			}
		}
	}
}

func TestListLeavesTheIterator(t *testing.T) { // P13.2: there, not one further
	for bound := -2; bound < 8; bound++ {
		begun, asked, ended := 0, 0, 0
		got := post.List(func(yield func(int) bool) {
			begun++
			for i := range 5 {
				asked++
				if !yield(i) {
					return
				}
			}
			ended++
		}, bound)
		want := max(0, min(bound, 5))
		if len(got) != want || asked != want {
			t.Errorf("the first %d: %v, asked %d times", bound, got, asked)
		}
		if (begun == 1) != (bound > 0) || (ended == 1) != (bound > 5) {
			t.Errorf("the first %d: begun %d times, ended %d times", bound, begun, ended)
		}
	}
}

func TestListOfAnEndlessIterator(t *testing.T) { // P13.2, R1
	endless := func(yield func(int) bool) {
		for i := 0; yield(i); i++ {
		}
	}
	for _, bound := range []int{math.MinInt, -1, 0, 1, 2, 1000, 100000} {
		got := post.List(endless, bound)
		if len(got) != max(0, bound) || len(got) > 0 && got[len(got)-1] != bound-1 {
			t.Errorf("the first %d: %d numbers", bound, len(got))
		}
	}
	silent := func(func(int) bool) {
		for {
		}
	}
	if got := post.List(silent, 0); len(got) != 0 {
		t.Errorf("none of them: %v", got)
	}
}

func TestListOfAnIteratorThatWillNotBeLeft(t *testing.T) { // P13.2, R1: neither a panic, nor no end
	stubborn := func(yield func(int) bool) {
		for i := 0; ; i++ {
			yield(i)
		}
	}
	for _, bound := range []int{-1, 0, 1, 2, 5, 100} {
		if got := post.List(stubborn, bound); len(got) != max(0, bound) || !post.Rises(got) {
			t.Errorf("the first %d: %v", bound, got)
		}
	}
	if got := post.List(nil, 5); len(got) != 0 {
		t.Errorf("of no iterator: %v", got)
	}
	if got := post.List(func(func(int) bool) {}, 5); len(got) != 0 {
		t.Errorf("of one that tells nothing: %v", got)
	}
}

func TestListIsNewMemory(t *testing.T) { // R3: spare room too
	for _, w := range ways() {
		it, want := w.ask(three()), w.want(three())
		for bound := range len(want) + 2 {
			first, second := post.List(it, bound), post.List(it, bound)
			for i := range first[:cap(first)] {
				first[:cap(first)][i] = -7
			}
			if !slices.Equal(second, want[:min(bound, len(want))]) {
				t.Errorf("%s: two answers share memory: %v", w.name, second)
			}
		}
		tells(t, it, want, w.name, "behind a change of its answer")
	}
}

func list(it iter.Seq[int]) []int {
	return post.List(it, math.MaxInt)
}

func TestTurnedRound(t *testing.T) { // P13.3
	for _, a := range rising() {
		for _, b := range rising() {
			tells(t, post.And(b, a), told(post.And(a, b)), "And", b, a)
			tells(t, post.Or(b, a), told(post.Or(a, b)), "Or", b, a)
		}
	}
}

func TestGrouped(t *testing.T) { // P13.3
	for _, a := range rising() {
		for _, b := range rising() {
			for _, c := range rising() {
				of := fmt.Sprint(a, b, c)
				tells(t, post.And(list(post.And(a, b)), c), list(post.And(a, list(post.And(b, c)))), "And", of)
				tells(t, post.Or(list(post.Or(a, b)), c), list(post.Or(a, list(post.Or(b, c)))), "Or", of)
				tells(t, post.Or(list(post.Or(a, b)), c), list(post.Or(a, b, c)), "Or of three", of)
				tells(t, post.And(list(post.And(a, b)), c), list(post.Most([][]int{a, b, c}, 3)), "Most of three", of)
			}
		}
	}
}

func TestAnyOrderOfManyLists(t *testing.T) { // P13.3
	r := rand.New(rand.NewSource(7))
	for range 200 {
		var l [][]int
		for range r.Intn(10) {
			l = append(l, mixed(r, r.Intn(12), 20))
		}
		k := r.Intn(len(l) + 2)
		or, most := told(post.Or(l...)), told(post.Most(l, k))
		for range 5 {
			r.Shuffle(len(l), func(i, j int) { l[i], l[j] = l[j], l[i] })
			tells(t, post.Or(l...), or, "Or", l)
			tells(t, post.Most(l, k), most, "Most", l, k)
		}
	}
}

func TestLessAndAndTogether(t *testing.T) { // P13.3: they are a, and have no number in common
	for _, a := range rising() {
		for _, b := range rising() {
			less, and := list(post.Less(a, b)), list(post.And(a, b))
			tells(t, post.Or(less, and), a, "Less and And together", a, b)
			tells(t, post.And(less, and), nil, "Less and And in common", a, b)
		}
	}
}
