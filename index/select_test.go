package index_test

import (
	"slices"
	"strconv"
	"strings"
	"testing"

	"varve/api"
	"varve/index"
	"varve/label"
	"varve/match"
)

// matcher is one that match's Check allows, with at most so many nodes, nested at most so deep.
func (d *draws) matcher(nodes, depth int) api.Matcher {
	op := d.below(8)
	if (nodes < 2 || depth < 2) && op >= api.And {
		op = api.Is + d.below(4)
	}
	m := api.Matcher{Op: op}
	switch op {
	case api.Is, api.Isnt:
		m.Name, m.Value = d.asked()
	case api.Begins:
		m.Name, m.Value = d.asked()
		m.Value = m.Value[:d.below(len(m.Value)+1)]
	case api.Among:
		for range 1 + d.below(5) {
			var value string
			m.Name, value = d.asked()
			m.Values = append(m.Values, value)
		}
		slices.Sort(m.Values)
		m.Values = slices.Compact(m.Values)
	case api.Not:
		m.Kids = []api.Matcher{d.matcher(nodes-1, depth-1)}
	case api.And, api.Or:
		for left := nodes - 1; left > 0 && d.below(5) > 0; {
			kid := d.matcher(1+d.below(left), depth-1)
			left -= size(kid)
			m.Kids = append(m.Kids, kid)
		}
	}
	return m
}

// asked are a name and a value that a matcher may have; often those of a set, and the empty one.
func (d *draws) asked() (string, string) {
	name, value := names()[d.below(len(names()))], values()[d.below(len(values()))]
	switch d.below(8) {
	case 0:
		return "none", value
	case 1, 2:
		return name, ""
	case 3:
		return name, "1x"
	}
	return name, value
}

// size is how many matchers there are in all.
func size(m api.Matcher) int {
	n := 1
	for _, kid := range m.Kids {
		n += size(kid)
	}
	return n
}

func is(name, value string) api.Matcher { return api.Matcher{Op: api.Is, Name: name, Value: value} }

func isnt(name, value string) api.Matcher {
	return api.Matcher{Op: api.Isnt, Name: name, Value: value}
}

func begins(name, value string) api.Matcher {
	return api.Matcher{Op: api.Begins, Name: name, Value: value}
}

func among(name string, values ...string) api.Matcher {
	return api.Matcher{Op: api.Among, Name: name, Values: values}
}

func and(kids ...api.Matcher) api.Matcher { return api.Matcher{Op: api.And, Kids: kids} }

func or(kids ...api.Matcher) api.Matcher { return api.Matcher{Op: api.Or, Kids: kids} }

func not(m api.Matcher) api.Matcher { return api.Matcher{Op: api.Not, Kids: []api.Matcher{m}} }

// under is m beneath so many Nots.
func under(n int, m api.Matcher) api.Matcher {
	for range n {
		m = not(m)
	}
	return m
}

// right are matchers that match's Check allows: all that stand alone of some names and values, some of each two of a few,
// the widest and the deepest ones.
func right() []api.Matcher {
	out := []api.Matcher{{}, and(), or(), not(and()), not(or()), and(or()), or(and()), under(7, api.Matcher{}), under(6, is("a", "1")), under(7, is("a", "1"))}
	few := []api.Matcher{{}, or(), is("a", "1"), is("b", ""), isnt("a", "1"), isnt("a", ""), begins("a", "1"), begins("a", ""), among("a", "", "1"), among("b", "1", "2"), not(is("job", "1"))}
	for _, m := range few {
		for _, n := range few {
			out = append(out, and(m, n), or(m, n), not(and(m, n)), not(or(m, n)))
		}
		out = append(out, and(m, m, m), or(slices.Repeat([]api.Matcher{m}, 31)...), and(slices.Repeat([]api.Matcher{m}, 31)...))
	}
	for _, name := range []string{"a", "b", "job", "none", "n", "odd", strings.Repeat("q", 32)} {
		for _, value := range append(values(), "", "none", "0", "v", "\xc3") {
			out = append(out, is(name, value), isnt(name, value), begins(name, value), among(name, value))
		}
		all := append(values(), "")
		slices.Sort(all)
		out = append(out, among(name, all...), among(name, "", "none"), among(name, "none", "nothing"), or(is(name, ""), isnt(name, "")), and(is(name, ""), isnt(name, "")))
	}
	d := draws(14)
	for i := range 150 {
		out = append(out, d.matcher(1+i%64, 1+i%8))
	}
	return out
}

// means are the numbers of the sets that a matcher means, by going through all.
func (s slow) means(m api.Matcher) []int {
	return s.keep(func(l []api.Label) bool { return match.Eval(m, l) })
}

// selects checks Select of a matcher that is allowed.
func selects(t *testing.T, x *index.Index, s slow, m api.Matcher) {
	t.Helper()
	if !match.Check(m) {
		t.Fatalf("%v is not allowed", m)
	}
	if got, e := x.Select(m); !slices.Equal(got, s.means(m)) || e != api.OK {
		t.Fatalf("Select(%s) is %v, %v, not %v", match.Text(m), got, e, s.means(m))
	}
}

func TestSelect(t *testing.T) { // P14.2: told out
	x := of(t, set("a", "1"), set("a", "2", "b", "x"), set("b", "x"), set("a", "12", "b", "xy"), set("c", "1"))
	all := []int{0, 1, 2, 3, 4}
	for _, one := range []struct {
		m    api.Matcher
		want []int
	}{
		{api.Matcher{}, all}, {and(), all}, {or(), nil}, {not(api.Matcher{}), nil}, {not(or()), all},
		{is("a", "1"), []int{0}}, {is("a", ""), []int{2, 4}}, {is("a", "x"), nil}, {is("d", ""), all}, {is("d", "1"), nil},
		{isnt("a", "1"), []int{1, 2, 3, 4}}, {isnt("a", ""), []int{0, 1, 3}}, {isnt("a", "x"), all}, {isnt("d", ""), nil}, {isnt("d", "1"), all},
		{begins("a", "1"), []int{0, 3}}, {begins("a", "12"), []int{3}}, {begins("a", "123"), nil}, {begins("a", ""), all}, {begins("d", ""), all}, {begins("d", "1"), nil}, {begins("b", "x"), []int{1, 2, 3}},
		{among("a", "1", "2"), []int{0, 1}}, {among("a", "", "1"), []int{0, 2, 4}}, {among("a", ""), []int{2, 4}}, {among("a", "x"), nil}, {among("d", "", "1"), all},
		{and(is("a", "2"), is("b", "x")), []int{1}}, {and(is("a", "1"), is("b", "x")), nil}, {and(is("a", ""), is("b", "")), []int{4}},
		{or(is("a", "2"), is("b", "x")), []int{1, 2}}, {or(is("c", "1"), is("a", "1")), []int{0, 4}}, {or(is("b", "x"), is("a", "1"), begins("b", "x")), []int{0, 1, 2, 3}},
		{not(is("b", "x")), []int{0, 3, 4}}, {not(begins("a", "")), nil}, {not(or(is("a", "1"), is("c", "1"))), []int{1, 2, 3}}, {not(and(is("a", "2"), is("b", "x"))), []int{0, 2, 3, 4}},
		{api.Matcher{Op: api.Is, Name: "a", Value: "1", Values: []string{}, Kids: []api.Matcher{}}, []int{0}},
	} {
		if got, e := x.Select(one.m); !slices.Equal(got, one.want) || e != api.OK {
			t.Errorf("Select(%s) is %v, %v, not %v", match.Text(one.m), got, e, one.want)
		}
	}
}

func TestSelectIsGoingThroughAll(t *testing.T) { // P14.3: many drawn matchers of drawn sets
	d := draws(77)
	for i, n := range []int{1, 4, 30, 200} {
		s := drawn(20+i, n)
		x := of(t, s...)
		for i := range 1500 {
			selects(t, x, s, d.matcher(1+i%64, 1+i%8))
		}
	}
}

func TestSelectOfAFullIndex(t *testing.T) { // P14.3: as many sets as may be, each with a value of its own
	var s slow
	for i := range most {
		s = append(s, numbered(i))
	}
	x := of(t, s...)
	for _, m := range []api.Matcher{
		{}, is("n", "4095"), isnt("n", "0"), begins("n", "4"), begins("n", "409"), begins("n", ""), is("odd", "1"), isnt("odd", "1"), is("odd", ""), isnt("none", ""),
		and(begins("n", "1"), is("odd", "0")), or(begins("n", "1"), begins("n", "2"), begins("n", "12"), is("odd", "1")), not(or(begins("n", "1"), begins("n", "2"))), among("n", "0", "1", "4095", "4096"),
	} {
		selects(t, x, s, m)
	}
	wide := and()
	for i := range 63 {
		wide.Kids = append(wide.Kids, isnt("n", strconv.Itoa(i*65)))
	}
	selects(t, x, s, wide)
	wide.Op = api.Or
	selects(t, x, s, not(or(wide.Kids[:61]...)))
	selects(t, x, s, wide)
}

func TestSelectRefused(t *testing.T) { // P14.2: what match's Check does not allow
	own := and(api.Matcher{})
	own.Kids[0] = own
	value, kid := []string{"1"}, []api.Matcher{{}}
	wrong := []api.Matcher{
		{Op: -1}, {Op: 8}, {Op: 99}, {Op: -1 << 63}, {Op: 1 << 62}, {Name: "a"}, {Value: "1"}, {Values: value}, {Kids: kid},
		is("", "1"), is("A", "1"), isnt("", ""), begins("0", ""), is("a", strings.Repeat("v", 65)), isnt("a", strings.Repeat("v", 65)), begins("a", strings.Repeat("v", 65)), is(strings.Repeat("n", 33), "1"),
		{Op: api.Is, Name: "a", Value: "1", Values: value}, {Op: api.Is, Name: "a", Value: "1", Kids: kid},
		among("a"), among("", "1"), among("a", "2", "1"), among("a", "1", "1"), among("a", strings.Repeat("v", 65)), among("a", strings.Split("abcdefghijklmnopq", "")...), {Op: api.Among, Name: "a", Value: "1", Values: value},
		{Op: api.Not}, {Op: api.Not, Kids: make([]api.Matcher, 2)}, {Op: api.And, Name: "a"}, {Op: api.Or, Value: "1"}, {Op: api.Or, Values: value},
		and(slices.Repeat(kid, 64)...), or(slices.Repeat(kid, 64)...), or(slices.Repeat(kid, 100000)...), under(8, api.Matcher{}), under(1000, api.Matcher{}), own,
		or(api.Matcher{}, is("A", "1")), and(or(), is("", "")), not(api.Matcher{Op: api.Not}),
	}
	s := slow{set("a", "1"), set("a", "2", "b", "x")}
	for _, x := range []*index.Index{index.New(), of(t, s...)} {
		for i, m := range wrong {
			if got, e := x.Select(m); got != nil || e != api.ErrInvalid {
				t.Errorf("Select of wrong one %d is %v, %v", i, got, e)
			}
		}
	}
	x := of(t, s...)
	for _, m := range wrong {
		x.Select(m)
	}
	holds(t, x, s)
}

func TestSelectChangesNoMatcher(t *testing.T) { // R3: spare room too
	s := drawn(31, 20)
	x := of(t, s...)
	texts := []string{"1", "2", "spare", "room"}
	kids := []api.Matcher{{Op: api.Among, Name: "a", Values: texts[:2]}, is("b", "1"), is("spare", ""), is("room", "")}
	for _, op := range []int{api.And, api.Or} {
		selects(t, x, s, not(api.Matcher{Op: op, Kids: kids[:2]}))
	}
	if !slices.Equal(texts, []string{"1", "2", "spare", "room"}) || !match.Same(or(kids...), or(among("a", "1", "2"), is("b", "1"), is("spare", ""), is("room", ""))) {
		t.Errorf("they became %q, %v", texts, kids)
	}
}

func TestSelectAndPostAndValuesAgree(t *testing.T) { // P14.2: the counts are those of the lists, the lists are those of Is
	s := drawn(32, 150)
	x := of(t, s...)
	for _, name := range names() {
		n := len(x.Post(name, ""))
		for value, k := range x.Values(name) {
			got, _ := x.Select(is(name, value))
			if value == "" || k < 1 || len(x.Post(name, value)) != k || !slices.Equal(got, x.Post(name, value)) {
				t.Errorf("%q of %q: %d, %v, %v", value, name, k, x.Post(name, value), got)
			}
			for _, id := range got {
				if l, ok := x.Labels(id); !ok || label.Value(l, name) != value {
					t.Errorf("%d has %q", id, l)
				}
			}
			n += k
		}
		if n != x.Len() {
			t.Errorf("%d of %d sets", n, x.Len())
		}
	}
}
