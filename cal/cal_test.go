package cal_test

import (
	"iter"
	"math"
	"math/big"
	"slices"
	"testing"

	"varve/api"
	"varve/cal"
)

// draws is a row of numbers that look drawn, the same ones in each run.
type draws uint64

func (d *draws) below(n int) int {
	*d = *d*6364136223846793005 + 1442695040888963407
	return int(uint64(*d>>33) % uint64(n))
}

// whole is any number of 64 bits.
func (d *draws) whole() int {
	return d.below(1<<31)<<33 ^ d.below(1<<31)<<16 ^ d.below(1<<16)
}

var (
	least    = big.NewInt(math.MinInt)
	greatest = big.NewInt(math.MaxInt)
	day      = big.NewInt(api.Day)
)

// keeps is a config of so many days a level.
func keeps(a, b, c, d int) api.Conf { return api.Conf{Keep: [4]int{a, b, c, d}} }

// held is a number, held at the ends of int.
func held(n *big.Int) int {
	switch {
	case n.Cmp(greatest) > 0:
		return math.MaxInt
	case n.Cmp(least) < 0:
		return math.MinInt
	}
	return int(n.Int64())
}

// down is a by b, rounded down; b is above 0.
func down(a, b *big.Int) *big.Int { return new(big.Int).Div(a, b) }

// floor is Floor by the chapter's words.
func floor(at, res int) int {
	r := big.NewInt(int64(res))
	n := down(big.NewInt(int64(at)), r)
	n.Mul(n, r)
	if n.Cmp(least) < 0 {
		n.Add(n, r)
	}
	return int(n.Int64())
}

// horizon is Horizon by the chapter's words, held at the greatest int.
func horizon(c api.Conf, now, level int) int {
	n := down(big.NewInt(int64(now)), day)
	n.Sub(n, big.NewInt(int64(c.Keep[min(max(level, 0), 3)])))
	if n.Sign() < 0 {
		return 0
	}
	return held(n.Mul(n, day))
}

// level is Level by the chapter's words.
func level(c api.Conf, now, d int) int {
	first := held(new(big.Int).Mul(big.NewInt(int64(d)), day))
	for l := range 4 {
		if horizon(c, now, l) <= first {
			return l
		}
	}
	return api.Gone
}

// edges are numbers beside which something may change: those about noughts, days, Slots and the ends of int.
func edges() []int {
	var out []int
	for _, n := range []int{0, api.Minute, api.Hour, api.Day, 2 * api.Day, 10 * api.Day, 1000 * api.Day, api.MaxKeep * api.Day, api.Slots, math.MaxInt / api.Day, math.MaxInt/api.Day + 1, math.MaxInt / 2} {
		for off := -2; off <= 2; off++ {
			out = append(out, n+off, -n+off)
		}
	}
	for off := range api.Day + 3 {
		if off < 9 || off%api.Minute == 2 || off > api.Day-9 {
			out = append(out, math.MaxInt-off, math.MinInt+off)
		}
	}
	return out
}

// P15.1: Slack from 0 to 1000 days' slots, at both ends.
func TestCheckSlack(t *testing.T) {
	for slack, want := range map[int]bool{0: true, 1: true, 360: true, 1000*api.Day - 1: true, 1000 * api.Day: true, 1000*api.Day + 1: false, -1: false, math.MaxInt: false, math.MinInt: false} {
		if cal.Check(api.Conf{Slack: slack, Keep: [4]int{1, 2, 3, 4}}) != want {
			t.Error("Slack", slack, "is not", want)
		}
	}
}

// P15.1: each Keep from 1 to MaxKeep, none below the one ahead; like ones may stand beside each other.
func TestCheckKeep(t *testing.T) {
	numbers := []int{math.MinInt, -1, 0, 1, 2, 7, api.MaxKeep - 1, api.MaxKeep, api.MaxKeep + 1, math.MaxInt}
	for _, a := range numbers {
		for _, b := range numbers {
			for _, c := range numbers {
				for _, d := range numbers {
					want := 1 <= a && a <= b && b <= c && c <= d && d <= api.MaxKeep
					if cal.Check(keeps(a, b, c, d)) != want {
						t.Fatal("Keep", a, b, c, d, "is not", want)
					}
				}
			}
		}
	}
	if cal.Check(api.Conf{}) || cal.Check(api.Conf{Slack: -1, Keep: [4]int{4, 3, 2, 1}}) {
		t.Error("a config that may not be")
	}
}

// P15.1: Res of the four levels, and of others.
func TestRes(t *testing.T) {
	for level, want := range map[int]int{0: 1, 1: 6, 2: 360, 3: 8640, api.Gone: 0, 5: 0, -1: 0, math.MaxInt: 0, math.MinInt: 0} {
		if got := cal.Res(level); got != want {
			t.Error("Res", level, "is", got, "not", want)
		}
	}
}

// P15.1: Floor of ordinary slots and of those below 0.
func TestFloor(t *testing.T) {
	for _, x := range []struct{ at, level, want int }{
		{0, 1, 0}, {5, 1, 0}, {6, 1, 6}, {7, 1, 6}, {-1, 1, -6}, {-6, 1, -6}, {-7, 1, -12},
		{359, 2, 0}, {360, 2, 360}, {-1, 2, -360}, {8639, 3, 0}, {8640, 3, 8640}, {-8640, 3, -8640}, {-8641, 3, -17280},
		{7, 0, 7}, {-7, 0, -7}, {7, 4, 7}, {-7, -1, -7}, {math.MinInt, 4, math.MinInt}, {math.MaxInt, -1, math.MaxInt},
	} {
		if got := cal.Floor(x.at, x.level); got != x.want {
			t.Error("Floor", x.at, x.level, "is", got, "not", x.want)
		}
	}
}

// P15.1: Floor at every edge; where int has no multiple below, it is the least one that it has.
func TestFloorEdges(t *testing.T) {
	for _, at := range edges() {
		for level, res := range []int{1, 6, 360, 8640} {
			got, want := cal.Floor(at, level), floor(at, res)
			if got != want || got%res != 0 {
				t.Fatal("Floor", at, level, "is", got, "not", want)
			}
		}
		for _, level := range []int{-1, 4, math.MaxInt, math.MinInt} {
			if got := cal.Floor(at, level); got != at {
				t.Fatal("Floor", at, level, "is", got)
			}
		}
	}
	var d draws
	for range 20000 {
		at := d.whole() >> d.below(64)
		for level, res := range []int{1, 6, 360, 8640} {
			if got, want := cal.Floor(at, level), floor(at, res); got != want {
				t.Fatal("Floor", at, level, "is", got, "not", want)
			}
		}
	}
}

// P15.2: the chapter's example, on each slot of the day about its ends.
func TestExample(t *testing.T) {
	c := keeps(1, 2, 3, 4)
	for _, now := range []int{10 * api.Day, 10*api.Day + 1, 10*api.Day + 5000, 11*api.Day - 1} {
		for level, want := range map[int]int{0: 9, 1: 8, 2: 7, 3: 6, -1: 9, math.MinInt: 9, 4: 6, math.MaxInt: 6} {
			if got := cal.Horizon(c, now, level); got != want*api.Day {
				t.Error("Horizon", now, level, "is", got)
			}
		}
		for day, want := range map[int]int{127258290: 0, 11: 0, 10: 0, 9: 0, 8: 1, 7: 2, 6: 3, 5: api.Gone, 0: api.Gone, -1: api.Gone} {
			if got := cal.Level(c, now, day); got != want {
				t.Error("Level", now, day, "is", got, "not", want)
			}
		}
	}
}

// P15.2: in the first days nothing is too old, and no horizon is below 0.
func TestFirstDays(t *testing.T) {
	c := keeps(1, 2, 3, 4)
	for level, keep := range c.Keep {
		for _, now := range []int{0, api.Day - 1, keep * api.Day, (keep+1)*api.Day - 1, -1, -api.Day, -9 * api.Day, math.MinInt} {
			if got := cal.Horizon(c, now, level); got != 0 {
				t.Error("Horizon", now, level, "is", got)
			}
		}
		if got := cal.Horizon(c, (keep+1)*api.Day, level); got != api.Day {
			t.Error("Horizon", keep+1, level, "is", got)
		}
	}
	if cal.Level(c, 0, 0) != 0 || cal.Level(c, api.Day, 0) != 0 || cal.Level(c, 2*api.Day, 0) != 1 || cal.Level(c, 0, -1) != api.Gone {
		t.Error("Level of the first days")
	}
}

// P15.2: of like Keeps the least level counts; with none between a day goes from the first level to Gone.
func TestLevelsOfLikeKeeps(t *testing.T) {
	for _, x := range []struct {
		c    api.Conf
		want []int // day 0's level, on days 0, 1, ..
	}{
		{keeps(1, 1, 1, 1), []int{0, 0, api.Gone, api.Gone}},
		{keeps(1, 1, 3, 3), []int{0, 0, 2, 2, api.Gone}},
		{keeps(1, 2, 2, 4), []int{0, 0, 1, 3, 3, api.Gone}},
		{keeps(2, 2, 2, 3), []int{0, 0, 0, 3, api.Gone}},
		{keeps(1, 2, 3, 4), []int{0, 0, 1, 2, 3, api.Gone}},
	} {
		for today, want := range x.want {
			if got := cal.Level(x.c, today*api.Day, 0); got != want {
				t.Error("Level", x.c.Keep, today, "is", got, "not", want)
			}
		}
	}
}

// configs are some that may be, drawn ones among them.
func configs() []api.Conf {
	out := []api.Conf{keeps(1, 2, 3, 4), keeps(1, 1, 1, 1), keeps(5, 5, 9, 9), keeps(1, 1, 1, api.MaxKeep), keeps(api.MaxKeep, api.MaxKeep, api.MaxKeep, api.MaxKeep)}
	d := draws(7)
	for range 20 {
		var c api.Conf
		for i := range c.Keep {
			c.Keep[i] = 1 + d.below([]int{12, api.MaxKeep}[d.below(2)])
		}
		slices.Sort(c.Keep[:])
		out = append(out, c)
	}
	return out
}

// P15.2: Horizon and Level of configs that may be, at all edges of now and of days.
func TestHorizonEdges(t *testing.T) {
	for _, c := range configs() {
		if !cal.Check(c) {
			t.Fatal("Check", c)
		}
		for _, now := range edges() {
			for _, l := range []int{math.MinInt, -1, 0, 1, 2, 3, 4, math.MaxInt} {
				if got, want := cal.Horizon(c, now, l), horizon(c, now, l); got != want {
					t.Fatal("Horizon", c, now, l, "is", got, "not", want)
				}
			}
		}
		for _, now := range []int{0, api.Day - 1, api.Day, 11 * api.Day, api.MaxKeep * api.Day, api.Slots - 1, api.Slots} {
			for _, d := range append(edges(), days(c, now)...) {
				if got, want := cal.Level(c, now, d), level(c, now, d); got != want {
					t.Fatal("Level", c, now, d, "is", got, "not", want)
				}
			}
		}
	}
}

// days are those about each level's horizon.
func days(c api.Conf, now int) []int {
	var out []int
	for _, keep := range c.Keep {
		for off := -2; off <= 2; off++ {
			out = append(out, now/api.Day-keep+off)
		}
	}
	return out
}

// R1, R5: configs that may not be, any now and day: no panic, and no sum that leaves its type.
func TestAnyConfig(t *testing.T) {
	numbers := []int{math.MinInt, math.MinInt + 1, -math.MaxInt / api.Day, -1, 0, 1, math.MaxInt / api.Day, math.MaxInt}
	for _, a := range numbers {
		for _, b := range numbers {
			c := keeps(a, b, b, a)
			for _, now := range edges() {
				for l := range 4 {
					if got, want := cal.Horizon(c, now, l), horizon(c, now, l); got != want {
						t.Fatal("Horizon", c, now, l, "is", got, "not", want)
					}
				}
				if got, want := cal.Level(c, now, b), level(c, now, b); got != want {
					t.Fatal("Level", c, now, b, "is", got, "not", want)
				}
			}
		}
	}
}

// P15.3: Coarsest: of noughts all Res divide, of numbers below 0 those that divide them above it.
func TestCoarsest(t *testing.T) {
	for _, x := range []struct{ start, step, want int }{
		{0, 0, 3}, {0, 1, 0}, {1, 0, 0}, {0, 6, 1}, {6, 0, 1}, {6, 7, 0}, {7, 6, 0}, {0, 359, 0}, {0, 360, 2}, {360, 8640, 2}, {8640, 360, 2},
		{6, 8640, 1}, {8640, 6, 1}, {1, 8640, 0}, {8640, 1, 0}, {8640, 8640, 3}, {17280, 86400, 3}, {8646, 8640, 1},
		{-6, 6, 1}, {-8640, -8640, 3}, {-1, -1, 0}, {math.MinInt, math.MinInt, 0}, {math.MaxInt, math.MaxInt, 0}, {api.Slots, api.Slots, 0},
	} {
		if got := cal.Coarsest(x.start, x.step); got != x.want {
			t.Error("Coarsest", x.start, x.step, "is", got, "not", x.want)
		}
	}
}

// P15.3: Coarsest by the chapter's words, at edges and of drawn multiples.
func TestCoarsestByWords(t *testing.T) {
	check := func(start, step int) {
		t.Helper()
		want := 0
		for l, res := range []int{1, 6, 360, 8640} {
			if start%res == 0 && step%res == 0 {
				want = l
			}
		}
		if got := cal.Coarsest(start, step); got != want {
			t.Fatal("Coarsest", start, step, "is", got, "not", want)
		}
	}
	for _, start := range edges() {
		for _, step := range []int{0, 1, 6, 30, 360, 720, 8640, 86400, start} {
			check(start, step)
			check(step, start)
		}
	}
	var d draws
	sizes := []int{1, 2, 3, 6, 36, 60, 360, 1080, 4320, 8640, 17280}
	for range 20000 {
		check((d.below(400)-200)*sizes[d.below(len(sizes))], (d.below(400)-200)*sizes[d.below(len(sizes))])
	}
}

// window is what Windows tells at a time.
type window struct{ from, to int }

func told(it iter.Seq2[int, int]) []window {
	var out []window
	for from, to := range it {
		out = append(out, window{from, to})
	}
	return out
}

// P15.3: windows, one behind the other, the last one up to Slots.
func TestWindows(t *testing.T) {
	for _, x := range []struct {
		start, step, n int
		want           []window
	}{
		{0, 1, 1, []window{{0, 1}}},
		{5, 7, 3, []window{{5, 12}, {12, 19}, {19, 26}}},
		{0, 360, 2, []window{{0, 360}, {360, 720}}},
		{0, api.Slots, 1, []window{{0, api.Slots}}},
		{1, api.Slots - 1, 1, []window{{1, api.Slots}}},
		{api.Slots - 1, 1, 1, []window{{api.Slots - 1, api.Slots}}},
		{api.Slots - 6, 3, 2, []window{{api.Slots - 6, api.Slots - 3}, {api.Slots - 3, api.Slots}}},
		{api.Slots - 7, 3, 2, []window{{api.Slots - 7, api.Slots - 4}, {api.Slots - 4, api.Slots - 1}}},
		{0, api.Slots / 2, 2, []window{{0, api.Slots / 2}, {api.Slots / 2, api.Slots}}},
	} {
		if got := told(cal.Windows(x.start, x.step, x.n)); !slices.Equal(got, x.want) {
			t.Error("Windows", x.start, x.step, x.n, "tells", got)
		}
	}
}

// P15.3, R1: none at all, if one would not be; the answer can still be gone through.
func TestNoWindows(t *testing.T) {
	for _, x := range [][3]int{
		{-1, 1, 1}, {0, 0, 1}, {0, 1, 0}, {0, -1, 1}, {0, 1, -1}, {0, -1, -1}, {-1, -1, -1}, {math.MinInt, 1, 1}, {0, math.MinInt, 1}, {0, 1, math.MinInt},
		{api.Slots, 1, 1}, {api.Slots + 1, 1, 1}, {api.Slots - 6, 3, 3}, {api.Slots - 5, 3, 2}, {0, api.Slots + 1, 1}, {0, api.Slots, 2}, {1, api.Slots, 1},
		{0, 1, api.Slots + 1}, {1, 1, api.Slots}, {0, api.Slots/2 + 1, 2},
		{math.MaxInt, 1, 1}, {0, math.MaxInt, 1}, {0, 1, math.MaxInt}, {0, math.MaxInt, 2}, {1, math.MaxInt, math.MaxInt}, {math.MaxInt, math.MaxInt, math.MaxInt},
		{0, 1 << 32, 1 << 32}, {0, 1 << 33, 1 << 31}, {0, 1 << 62, 4}, {0, 4, 1 << 62}, {math.MinInt, math.MinInt, math.MinInt},
	} {
		it := cal.Windows(x[0], x[1], x[2])
		if it == nil {
			t.Fatal("Windows", x, "is no iterator")
		}
		for from, to := range it {
			t.Fatal("Windows", x, "tells", from, to)
		}
	}
}

// P15.3: of many windows the first ones are told at once, as many as are asked for.
func TestManyWindows(t *testing.T) {
	n := 0
	for from, to := range cal.Windows(0, 1, api.Slots) {
		if from != n || to != n+1 {
			t.Fatal("window", n, "is", from, to)
		}
		if n++; n == 100 {
			break
		}
	}
	if n != 100 {
		t.Fatal("there were", n)
	}
	if got := len(told(cal.Windows(3, 1000, api.MaxWindows))); got != api.MaxWindows {
		t.Error("there were", got)
	}
}

// R6: windows are gone through again, left early, and one within another.
func TestWindowsAgain(t *testing.T) {
	it := cal.Windows(5, 7, 3)
	want := []window{{5, 12}, {12, 19}, {19, 26}}
	for range it {
		break
	}
	for range 2 {
		if got := told(it); !slices.Equal(got, want) {
			t.Fatal("gone through again:", got)
		}
	}
	n := 0
	for from, to := range it {
		if (window{from, to}) != want[n] {
			t.Fatal("window", n, "is", from, to)
		}
		if got := told(it); !slices.Equal(got, want) {
			t.Fatal("within another:", got)
		}
		n++
	}
}

// P15.4: a day's level never falls as now rises, and it comes to be Gone; no horizon falls.
func TestLevelsRise(t *testing.T) {
	for _, c := range []api.Conf{keeps(1, 2, 3, 4), keeps(1, 1, 1, 1), keeps(2, 5, 5, 11), keeps(3, 3, 9, 9), keeps(1, 7, 13, 14)} {
		for day := range 6 {
			last := 0
			for now := 0; now < 22*api.Day; now += 997 {
				got := cal.Level(c, now, day)
				if got < last || got > api.Gone {
					t.Fatal("Level", c.Keep, now, day, "falls from", last, "to", got)
				}
				last = got
			}
			if last != api.Gone {
				t.Fatal("Level", c.Keep, day, "ends as", last)
			}
		}
		for level := range 4 {
			last := 0
			for now := 0; now < 22*api.Day; now += 997 {
				if got := cal.Horizon(c, now, level); got < last || got > now || got%api.Day != 0 {
					t.Fatal("Horizon", c.Keep, now, level, "is", got, "behind", last)
				} else {
					last = got
				}
			}
		}
	}
}

// P15.4: Res of a lower level divides that of a higher one; so what is floored of a higher one is floored of a lower one.
func TestResDivides(t *testing.T) {
	for high := range 4 {
		for low := range high {
			if cal.Res(low) < 1 || cal.Res(high)%cal.Res(low) != 0 {
				t.Error("Res", low, "does not divide Res", high)
			}
			for _, at := range []int{-8641, -1, 0, 1, 8639, 123456789, api.Slots} {
				if cal.Floor(cal.Floor(at, low), high) != cal.Floor(at, high) || cal.Floor(cal.Floor(at, high), low) != cal.Floor(at, high) {
					t.Error("Floor", at, low, high)
				}
			}
		}
	}
}

// R4: the same arguments, the same answer, whatever was asked between.
func TestAskedAgain(t *testing.T) {
	c := keeps(1, 2, 3, 4)
	a, b := cal.Level(c, 10*api.Day, 8), cal.Horizon(c, 10*api.Day, 2)
	cal.Check(api.Conf{})
	cal.Level(keeps(9, 9, 9, 9), 99*api.Day, 3)
	told(cal.Windows(0, 6, 9))
	if cal.Level(c, 10*api.Day, 8) != a || cal.Horizon(c, 10*api.Day, 2) != b || a != 1 || b != 7*api.Day {
		t.Error("the answer is another one")
	}
}
