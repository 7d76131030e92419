package match_test

import (
	"slices"
	"strings"
	"testing"

	"varve/api"
	"varve/label"
	"varve/match"
)

// draws are numbers without an order, the same ones for the same seed.
type draws uint64

// below is one from 0 to n - 1.
func (d *draws) below(n int) int {
	*d = *d*6364136223846793005 + 1442695040888963407
	return int(uint64(*d) >> 33 % uint64(n))
}

// value is a value of few bytes, those that play a part in a matcher's text often.
func (d *draws) value() string {
	out := make([]byte, d.below(5))
	for i := range out {
		out[i] = byte(d.below(256))
		if d.below(4) > 0 {
			out[i] = "\"\\,=()*&|!@^ ax\x00\x1f\x7f\x80\xff"[d.below(20)]
		}
	}
	return string(out)
}

// name is a name, of a few.
func (d *draws) name() string {
	names := []string{"a", "b", "_", "x", "a0", "job", "z_9", strings.Repeat("q", 32)}
	return names[d.below(len(names))]
}

// matcher is one that Check allows, with at most so many nodes, nested at most so deep.
func (d *draws) matcher(nodes, depth int) api.Matcher {
	op := d.below(8)
	if (nodes < 2 || depth < 2) && op == api.Not {
		op = api.Is
	}
	m := api.Matcher{Op: op}
	switch op {
	case api.Is, api.Isnt, api.Begins:
		m.Name, m.Value = d.name(), d.value()
	case api.Among:
		m.Name = d.name()
		for range 1 + d.below(4) {
			m.Values = append(m.Values, d.value())
		}
		slices.Sort(m.Values)
		m.Values = slices.Compact(m.Values)
	case api.Not:
		m.Kids = []api.Matcher{d.matcher(nodes-1, depth-1)}
	case api.And, api.Or:
		for left := nodes - 1; left > 0 && depth > 1 && d.below(4) > 0; {
			kid := d.matcher(1+d.below(left), depth-1)
			left -= len(all(kid))
			m.Kids = append(m.Kids, kid)
		}
	}
	return m
}

func is(name, value string) api.Matcher { return api.Matcher{Op: api.Is, Name: name, Value: value} }

func isnt(name, value string) api.Matcher {
	return api.Matcher{Op: api.Isnt, Name: name, Value: value}
}

func begins(name, value string) api.Matcher {
	return api.Matcher{Op: api.Begins, Name: name, Value: value}
}

func among(name string, values ...string) api.Matcher {
	return api.Matcher{Op: api.Among, Name: name, Values: values}
}

func and(kids ...api.Matcher) api.Matcher { return api.Matcher{Op: api.And, Kids: kids} }

func or(kids ...api.Matcher) api.Matcher { return api.Matcher{Op: api.Or, Kids: kids} }

func not(m api.Matcher) api.Matcher { return api.Matcher{Op: api.Not, Kids: []api.Matcher{m}} }

// under is m beneath so many others.
func under(n int, m api.Matcher) api.Matcher {
	for i := range n {
		switch i % 3 {
		case 0:
			m = not(m)
		case 1:
			m = and(m)
		case 2:
			m = or(m)
		}
	}
	return m
}

// times is n of one.
func times(n int, m api.Matcher) []api.Matcher {
	return slices.Repeat([]api.Matcher{m}, n)
}

// steps are n values that rise, each of so many bytes.
func steps(n, size int) []string {
	var out []string
	for i := range n {
		out = append(out, string(rune('a'+i))+strings.Repeat("v", size-1))
	}
	return out
}

// all is a matcher and all that are in it, one level after the other.
func all(m api.Matcher) []api.Matcher {
	out := []api.Matcher{m}
	for i := 0; i < len(out); i++ {
		out = append(out, out[i].Kids...)
	}
	return out
}

// texts is how many bytes the names and values of all have.
func texts(m api.Matcher) int {
	n := 0
	for _, one := range all(m) {
		n += len(one.Name + one.Value + strings.Join(one.Values, ""))
	}
	return n
}

// filled is an And with just so many bytes of names and values.
func filled(size int) api.Matcher {
	m := and()
	for i := range 5 {
		m.Kids = append(m.Kids, among("abcde"[i:i+1], steps(12, 64)...))
	}
	for left := size - texts(m); left > 0; left -= min(left, 97-1) {
		n := min(left, 97-1)
		m.Kids = append(m.Kids, is(strings.Repeat("n", (n+2)/3), strings.Repeat("v", n-(n+2)/3)))
	}
	return m
}

// right are matchers that Check allows.
func right() []api.Matcher {
	long, wide := strings.Repeat("n", 32), strings.Repeat("v", 64)
	out := []api.Matcher{
		{}, {Values: []string{}, Kids: []api.Matcher{}},
		is("a", ""), is("a", "x"), is("_", `"\`), is(long, wide), is("a", strings.Repeat("\xff", 64)), is("a", strings.Repeat("\x00", 64)), is("a0", "(((((((((("),
		isnt("a", ""), isnt("b", "1"), isnt(long, wide), isnt("a", "é"),
		begins("a", ""), begins("a", "xy"), begins(long, wide), begins("a", "*"),
		among("a", ""), among("a", "x"), among("b", "", "2"), among("a", "a", "aa", "b"), among("a", steps(16, 64)...), among(long, wide), among("a", "\x7f", "\x80", "\xff"), among("a", `"`, `(`, `)`, `,`, `\`),
		and(), or(), and(api.Matcher{}), or(api.Matcher{}), not(api.Matcher{}), and(and(), or()), not(and()), not(or()),
		and(api.Matcher{}, not(is("a", "x"))), or(is("a", "x"), is("b", "2")), or(is("a", "x"), is("a", "x")),
		and(times(63, api.Matcher{})...), or(times(63, is("a", "x"))...), and(times(21, and(api.Matcher{}, or()))...), not(and(times(62, or())...)),
		under(7, api.Matcher{}), under(7, is("a", "x")), under(7, among("a", "x")), under(7, and()), under(5, or(times(3, not(is("a", "x")))...)), under(7, isnt("b", `)`)),
		filled(4095), filled(4096),
		{Op: api.Is, Name: "a", Values: []string{}, Kids: []api.Matcher{}}, {Op: api.Not, Values: []string{}, Kids: []api.Matcher{{}}},
	}
	d := draws(12)
	for i := range 600 {
		out = append(out, d.matcher(1+i%64, 1+i%8))
	}
	return out
}

// wrong are matchers that Check does not allow, but that are no kids of their own.
func wrong() []api.Matcher {
	kid, value := []api.Matcher{{}}, []string{"v"}
	out := []api.Matcher{
		{Op: -1}, {Op: 8}, {Op: 9}, {Op: 1 << 40}, {Op: -1 << 63}, {Op: 256}, {Op: 1 << 32},
		{Name: "a"}, {Value: "v"}, {Values: value}, {Kids: kid}, {Values: []string{""}},
		is("", "x"), is("A", "x"), is("0", "x"), is("a b", "x"), is("é", "x"), is("a-", "x"), is(strings.Repeat("n", 33), "x"), is("a", strings.Repeat("v", 65)),
		isnt("", "x"), isnt("A", ""), isnt(strings.Repeat("n", 33), ""), isnt("a", strings.Repeat("v", 65)),
		begins("", "x"), begins("A", ""), begins(strings.Repeat("n", 33), ""), begins("a", strings.Repeat("v", 65)),
		among("", "x"), among("A", "x"), among(strings.Repeat("n", 33), "x"), among("a"), among("a", strings.Repeat("v", 65)), among("a", "b", strings.Repeat("v", 65)),
		among("a", "b", "a"), among("a", "a", "a"), among("a", "", ""), among("a", "x", ""), among("a", "a", "b", "b"), among("a", "a", "c", "b"), among("a", "\xff", "\x00"), among("a", "aa", "a"), among("a", steps(17, 1)...), among("a", make([]string, 1000)...),
		{Op: api.Not}, {Op: api.Not, Kids: []api.Matcher{}}, {Op: api.Not, Kids: make([]api.Matcher, 2)}, {Op: api.Not, Kids: make([]api.Matcher, 63)},
		and(times(64, api.Matcher{})...), or(times(64, api.Matcher{})...), and(times(1000, api.Matcher{})...), or(and(times(63, api.Matcher{})...)), and(times(21, and(api.Matcher{}, api.Matcher{}, or()))...), not(and(times(63, or())...)),
		under(8, api.Matcher{}), under(8, is("a", "x")), under(8, and()), under(9, or()), under(6, or(times(3, not(is("a", "x")))...)), under(1000, api.Matcher{}), and(is("a", "x"), under(8, api.Matcher{})),
		filled(4097), filled(5000), and(append(filled(4096).Kids, begins("a", ""))...), and(append(filled(4096).Kids, among("a", ""))...), and(append(filled(4095).Kids, among("a", "", "x"))...),
	}
	for op := api.Is; op <= api.Begins; op++ {
		out = append(out, api.Matcher{Op: op, Name: "a", Value: "v", Values: value}, api.Matcher{Op: op, Name: "a", Value: "v", Kids: kid}, api.Matcher{Op: op, Value: "v"}, api.Matcher{Op: op})
	}
	out = append(out, api.Matcher{Op: api.Among, Name: "a", Value: "v", Values: value}, api.Matcher{Op: api.Among, Name: "a", Values: value, Kids: kid}, api.Matcher{Op: api.Among, Name: "a", Value: "v"})
	for _, op := range []int{api.And, api.Or, api.Not} {
		out = append(out, api.Matcher{Op: op, Kids: kid, Name: "a"}, api.Matcher{Op: op, Kids: kid, Value: "v"}, api.Matcher{Op: op, Kids: kid, Values: value}, api.Matcher{Op: op, Kids: kid, Values: []string{""}})
	}
	for _, m := range slices.Clone(out) {
		out = append(out, not(m), and(api.Matcher{}, m), or(is("a", "x"), not(and(m)), api.Matcher{}))
	}
	return out
}

// endless are matchers that are kids of their own, and such of which there would be more than can be counted.
func endless() []api.Matcher {
	var out []api.Matcher
	for _, op := range []int{api.And, api.Or, api.Not} {
		ring := []api.Matcher{{Op: op}}
		ring[0].Kids = ring
		two := []api.Matcher{{Op: op}, {Op: op}}
		two[0].Kids, two[1].Kids = two, two
		out = append(out, ring[0], not(ring[0]), two[0], and(api.Matcher{}, or(two...)))
	}
	grown := api.Matcher{}
	for range 100 {
		grown = and(grown, grown)
	}
	far := []api.Matcher{{Op: api.Not}}
	for range 1 << 18 {
		far = []api.Matcher{{Op: api.Not, Kids: far}}
	}
	return append(out, grown, far[0], and(make([]api.Matcher, 1<<18)...))
}

// set is labels by names and values in turn.
func set(l ...string) []api.Label {
	var out []api.Label
	for i := 0; i < len(l); i += 2 {
		out = append(out, api.Label{Name: l[i], Value: l[i+1]})
	}
	return out
}

// sets are label sets, such that may not be among them.
func sets() [][]api.Label {
	return [][]api.Label{
		nil, {}, set("a", "x"), set("a", "xyz", "b", "2"), set("b", "2"), set("a", "1", "b", "1"), set("_", `"`, "a", `\`), set("a", "xy", "x", "("),
		set("a", "x", "a", "y"), set("b", "1", "a", "1"), set("a", ""), set("", "x"), set("a", "avvv"), set("job", "a", strings.Repeat("q", 32), strings.Repeat("v", 64)),
	}
}

// slowCheck is P12.1's words, over all matchers that are in one.
func slowCheck(m api.Matcher) bool {
	var deep func(m api.Matcher) int
	deep = func(m api.Matcher) int {
		most := 0
		for _, kid := range m.Kids {
			most = max(most, deep(kid))
		}
		return most + 1
	}
	if len(all(m)) > 64 || deep(m) > 8 || texts(m) > 4096 {
		return false
	}
	for _, one := range all(m) {
		named := one.Op == api.Is || one.Op == api.Isnt || one.Op == api.Begins
		grouped := one.Op == api.And || one.Op == api.Or || one.Op == api.Not
		rising := slices.IsSorted(one.Values) && len(slices.Compact(slices.Clone(one.Values))) == len(one.Values)
		ok := one.Op == api.All || named || one.Op == api.Among || grouped
		ok = ok && (label.Name(one.Name) && (named || one.Op == api.Among) || one.Name == "" && (one.Op == api.All || grouped))
		ok = ok && (one.Value == "" || named && len(one.Value) <= 64)
		ok = ok && (len(one.Values) == 0) == (one.Op != api.Among) && len(one.Values) <= 16 && rising
		ok = ok && (len(one.Kids) == 0 || grouped) && (one.Op != api.Not || len(one.Kids) == 1)
		for _, v := range one.Values {
			ok = ok && len(v) <= 64
		}
		if !ok {
			return false
		}
	}
	return true
}

// slowEval is P12.2's words.
func slowEval(m api.Matcher, l []api.Label) bool {
	value := ""
	for _, one := range slices.Backward(l) {
		if one.Name == m.Name {
			value = one.Value
		}
	}
	yes, no := 0, 0
	for _, kid := range m.Kids {
		if slowEval(kid, l) {
			yes++
		} else {
			no++
		}
	}
	one := false
	for _, v := range m.Values {
		one = one || v == value
	}
	switch m.Op {
	case api.All:
		return true
	case api.Is:
		return value == m.Value
	case api.Isnt:
		return value != m.Value
	case api.Begins:
		return len(value) >= len(m.Value) && value[:len(m.Value)] == m.Value
	case api.Among:
		return one
	case api.And:
		return no == 0
	case api.Or:
		return yes > 0
	case api.Not:
		return no == 1
	}
	return false
}

// equal tells whether two are the same by their parts.
func equal(a, b api.Matcher) bool {
	if a.Op != b.Op || a.Name != b.Name || a.Value != b.Value || len(a.Values) != len(b.Values) || len(a.Kids) != len(b.Kids) {
		return false
	}
	for i := range a.Values {
		if a.Values[i] != b.Values[i] {
			return false
		}
	}
	for i := range a.Kids {
		if !equal(a.Kids[i], b.Kids[i]) {
			return false
		}
	}
	return true
}

// zero tells whether a matcher is the zero one (nil and empty are one).
func zero(m api.Matcher) bool {
	return equal(m, api.Matcher{})
}

// spoiled turns all that a matcher's lists reach, spare room too.
func spoiled(m api.Matcher) {
	for i := range m.Values[:cap(m.Values)] {
		m.Values[:cap(m.Values)][i] = "turned"
	}
	for i := range m.Kids[:cap(m.Kids)] {
		kid := &m.Kids[:cap(m.Kids)][i]
		spoiled(*kid)
		*kid = api.Matcher{Op: 77}
	}
}

// apart checks that no two lists of a matcher share memory: each is turned as a whole, and the others stay.
func apart(t *testing.T, fresh func() api.Matcher) {
	t.Helper()
	for i := range all(fresh()) {
		before, m := all(fresh()), all(fresh())
		if values := m[i].Values; cap(values) > 0 {
			for j := range values[:cap(values)] {
				values[:cap(values)][j] = "turned"
			}
		}
		for j := range m {
			if j != i && !slices.Equal(m[j].Values, before[j].Values) {
				t.Fatalf("values of %d and %d are one list", i, j)
			}
		}
		root := fresh()
		kids := all(root)[i].Kids
		for j := range kids[:cap(kids)] {
			kids[:cap(kids)][j] = api.Matcher{Op: 77}
		}
		turned := 0
		for _, one := range all(root) {
			if one.Op == 77 {
				turned++
			}
		}
		if turned != len(kids) {
			t.Fatalf("the kids of %d share memory", i)
		}
	}
}

func TestCheck(t *testing.T) { // P12.1
	for _, m := range right() {
		if !match.Check(m) || !slowCheck(m) {
			t.Errorf("Check(%+v) = %t", m, match.Check(m))
		}
	}
	for _, m := range wrong() {
		if match.Check(m) || slowCheck(m) {
			t.Errorf("Check(%+v) = %t", m, match.Check(m))
		}
	}
	for i, m := range endless() {
		if match.Check(m) {
			t.Errorf("Check of the endless one %d", i)
		}
	}
}

func TestCheckEachShape(t *testing.T) { // P12.1: all ops with all kinds of parts
	names := []string{"", "a", "A", strings.Repeat("n", 32), strings.Repeat("n", 33)}
	values := []string{"", "v", strings.Repeat("v", 64), strings.Repeat("v", 65)}
	lists := [][]string{nil, {""}, {"v"}, {"a", "b"}, {"b", "a"}, {"a", "a"}, steps(16, 1), steps(17, 1), {strings.Repeat("v", 65)}}
	kids := [][]api.Matcher{nil, {{}}, {{}, {}}, {is("a", "x")}, {{Op: 8}}, {and()}}
	n := 0
	for op := -2; op < 12; op++ {
		for _, name := range names {
			for _, value := range values {
				for _, list := range lists {
					for _, kid := range kids {
						m := api.Matcher{Op: op, Name: name, Value: value, Values: list, Kids: kid}
						if got := match.Check(m); got != slowCheck(m) {
							t.Fatalf("Check(%+v) = %t", m, got)
						} else if got {
							n++
						}
					}
				}
			}
		}
	}
	if n != 1+3*2*3+2*4+2*5+3 {
		t.Errorf("%d shapes may be", n)
	}
}

func TestCheckBounds(t *testing.T) { // P12.1: how many, how deep, how long, just at the edge and beyond it
	for n := range 130 {
		flat := and(times(n, or())...)
		chain := api.Matcher{}
		for range n {
			chain = not(chain)
		}
		side := and(under(n, is("a", "x")), under(max(n-1, 0), is("a", "x")))
		if match.Check(flat) != (n <= 63) || match.Check(chain) != (n <= 7) || match.Check(side) != (n <= 6) {
			t.Errorf("%d: %t, %t, %t", n, match.Check(flat), match.Check(chain), match.Check(side))
		}
	}
	for size := 4000; size < 4200; size++ {
		m := filled(size)
		if texts(m) != size || len(all(m)) > 64 {
			t.Fatalf("%d bytes in %d", texts(m), len(all(m)))
		}
		if match.Check(m) != (size <= 4096) || match.Check(under(3, m)) != (size <= 4096) {
			t.Errorf("%d bytes: %t", size, match.Check(m))
		}
	}
}

func TestCheckOfAny(t *testing.T) { // P12.1: drawn ones, and each with a part turned
	d := draws(5)
	turns := []func(m *api.Matcher){
		func(m *api.Matcher) { m.Op = d.below(10) - 1 },
		func(m *api.Matcher) { m.Name = []string{"", "a", "A", "b"}[d.below(4)] },
		func(m *api.Matcher) { m.Value = d.value() },
		func(m *api.Matcher) { m.Values = append(slices.Clone(m.Values), d.value()) },
		func(m *api.Matcher) { m.Values = nil },
		func(m *api.Matcher) { m.Kids = append(slices.Clone(m.Kids), d.matcher(3, 2)) },
		func(m *api.Matcher) { m.Kids = nil },
	}
	yes, no := 0, 0
	for range 20000 {
		m := d.matcher(1+d.below(20), 1+d.below(8))
		at := &m
		for len(at.Kids) > 0 && d.below(3) > 0 {
			at = &at.Kids[d.below(len(at.Kids))]
		}
		turns[d.below(len(turns))](at)
		if match.Check(m) != slowCheck(m) {
			t.Fatalf("Check(%+v) = %t", m, match.Check(m))
		}
		if slowCheck(m) {
			yes++
		} else {
			no++
		}
	}
	if yes < 1000 || no < 1000 {
		t.Errorf("%d may be, %d may not", yes, no)
	}
}

func TestEval(t *testing.T) { // P12.2
	l := set("a", "xyz", "b", "2")
	for _, x := range []struct {
		m    api.Matcher
		l    []api.Label
		want bool
	}{
		{isnt("a", "1"), set("b", "2"), true}, // the chapter's
		{api.Matcher{}, nil, true}, {api.Matcher{}, l, true},
		{is("a", "xyz"), l, true}, {is("a", "xy"), l, false}, {is("a", "xyzz"), l, false}, {is("a", ""), l, false}, {is("b", "2"), l, true}, {is("b", "xyz"), l, false}, {is("c", ""), l, true}, {is("c", "1"), l, false}, {is("a", ""), nil, true},
		{isnt("a", "xyz"), l, false}, {isnt("a", "xy"), l, true}, {isnt("c", ""), l, false}, {isnt("c", "1"), l, true},
		{begins("a", ""), l, true}, {begins("a", "x"), l, true}, {begins("a", "xyz"), l, true}, {begins("a", "xyzz"), l, false}, {begins("a", "y"), l, false}, {begins("c", ""), l, true}, {begins("c", "x"), l, false}, {begins("b", "x"), l, false},
		{among("a", "xyz"), l, true}, {among("a", "a", "xyz", "z"), l, true}, {among("a", "a", "b", "xyz"), l, true}, {among("a", "xyz", "z"), l, true}, {among("a", "x", "xy", "xyzz"), l, false}, {among("c", ""), l, true}, {among("c", "", "x"), l, true}, {among("c", "x"), l, false}, {among("b", "xyz"), l, false},
		{and(), l, true}, {or(), l, false}, {not(and()), l, false}, {not(or()), l, true},
		{and(is("a", "xyz"), is("b", "2")), l, true}, {and(is("a", "xyz"), is("b", "3")), l, false}, {and(is("a", "x"), is("b", "2")), l, false}, {and(is("a", "x")), l, false},
		{or(is("a", "xyz"), is("b", "3")), l, true}, {or(is("a", "x"), is("b", "2")), l, true}, {or(is("a", "x"), is("b", "3")), l, false}, {or(is("a", "xyz"), is("b", "2")), l, true},
		{not(is("a", "xyz")), l, false}, {not(is("a", "x")), l, true}, {not(not(is("a", "x"))), l, false}, {not(api.Matcher{}), l, false},
		{is("a", "1"), set("a", "1", "a", "2"), true}, {is("a", "2"), set("a", "1", "a", "2"), false},
		{api.Matcher{Op: 8}, l, false}, {api.Matcher{Op: -1}, l, false}, {api.Matcher{Op: 1 << 32}, l, false},
	} {
		if got := match.Eval(x.m, x.l); got != x.want || slowEval(x.m, x.l) != x.want {
			t.Errorf("Eval(%+v, %+v) = %t", x.m, x.l, got)
		}
	}
}

func TestEvalIsTheWords(t *testing.T) { // P12.2
	yes, no := 0, 0
	for _, l := range sets() {
		for _, m := range right() {
			want := slowEval(m, l)
			if got := match.Eval(m, l); got != want {
				t.Fatalf("Eval(%+v, %+v) = %t", m, l, got)
			}
			if want {
				yes++
			} else {
				no++
			}
		}
	}
	if yes < 500 || no < 500 {
		t.Errorf("%d are meant, %d are not", yes, no)
	}
	for _, m := range append(wrong(), endless()...) {
		for _, l := range sets() {
			match.Eval(m, l) // R1: any answer, but there is one
		}
	}
}

func TestEvalMany(t *testing.T) { // P12.2: sets and matchers drawn so that values often meet
	d := draws(9)
	few := func() string { return []string{"", "x", "xy", "xyz", "y"}[d.below(5)] }
	for range 20000 {
		var l []api.Label
		for range d.below(4) {
			l = append(l, api.Label{Name: "abc"[d.below(3):][:1], Value: few()})
		}
		m := d.matcher(1+d.below(30), 1+d.below(7))
		for i := range m.Kids {
			m.Kids[i] = api.Matcher{Op: 1 + d.below(3), Name: "abc"[d.below(3):][:1], Value: few()}
		}
		if got := match.Eval(m, l); got != slowEval(m, l) {
			t.Fatalf("Eval(%+v, %+v) = %t", m, l, got)
		}
		if match.Eval(not(m), l) == match.Eval(m, l) || match.Eval(and(m, api.Matcher{}), l) != match.Eval(or(m, or()), l) {
			t.Fatalf("Eval(%+v, %+v) is not a logic's", m, l)
		}
	}
}

func TestSame(t *testing.T) { // P12.4: part by part
	some := right()[:120]
	for i, a := range some {
		for j, b := range some {
			want := equal(a, b)
			if got := match.Same(a, b); got != want || i == j && !got {
				t.Errorf("Same(%+v, %+v) = %t", a, b, got)
			}
		}
	}
	for _, a := range right() {
		for _, b := range turnedOnce(a) {
			if match.Same(a, b) || match.Same(b, a) {
				t.Fatalf("%+v and %+v are the same", a, b)
			}
			if match.Check(b) && !match.Same(b, b) {
				t.Fatalf("%+v is not the same as itself", b)
			}
		}
	}
	hollow := api.Matcher{Op: api.And, Values: []string{}, Kids: []api.Matcher{{Values: []string{}, Kids: []api.Matcher{}}}}
	if !match.Same(hollow, and(api.Matcher{})) || !match.Same(and(api.Matcher{}), hollow) || !match.Same(api.Matcher{}, api.Matcher{Kids: []api.Matcher{}}) {
		t.Error("nil and empty are not one")
	}
	odd := append(append(endless(), wrong()[:60]...), right()[:20]...)
	for _, a := range odd {
		for _, b := range odd {
			match.Same(a, b) // R1
		}
	}
}

// turnedOnce are copies of a matcher, each with one part other.
func turnedOnce(m api.Matcher) []api.Matcher {
	var out []api.Matcher
	for i := range all(m) {
		for _, turn := range []func(m *api.Matcher){
			func(m *api.Matcher) { m.Op ^= 1 },
			func(m *api.Matcher) { m.Op += 2 },
			func(m *api.Matcher) { m.Name += "n" },
			func(m *api.Matcher) { m.Value += "v" },
			func(m *api.Matcher) { m.Values = append(m.Values, "\xff\xff\xff") },
			func(m *api.Matcher) { m.Kids = append(m.Kids, api.Matcher{}) },
			func(m *api.Matcher) {
				if len(m.Values) == 0 {
					m.Value = "other"
				} else {
					m.Values[len(m.Values)-1] += "v"
				}
			},
		} {
			other := cloned(m)
			turn(nth(&other, i))
			out = append(out, other)
		}
	}
	return out
}

// nth is the one that all tells at a place, in its own place.
func nth(m *api.Matcher, n int) *api.Matcher {
	line := []*api.Matcher{m}
	for i := 0; i < n; i++ {
		for j := range line[i].Kids {
			line = append(line, &line[i].Kids[j])
		}
	}
	return line[n]
}

// cloned is a copy in new memory.
func cloned(m api.Matcher) api.Matcher {
	m.Values, m.Kids = slices.Clone(m.Values), slices.Clone(m.Kids)
	for i := range m.Kids {
		m.Kids[i] = cloned(m.Kids[i])
	}
	return m
}

func TestOwn(t *testing.T) { // the same one in new memory, no list of it shared
	for _, m := range right() {
		before := cloned(m)
		got := match.Own(m)
		if !equal(got, m) || !match.Same(got, m) {
			t.Fatalf("Own(%+v) = %+v", m, got)
		}
		spoiled(got)
		if !equal(m, before) {
			t.Fatalf("Own(%+v) shares memory with it", before)
		}
	}
	for _, m := range right()[:150] {
		apart(t, func() api.Matcher { return match.Own(m) })
	}
	for _, m := range append(wrong(), endless()...) {
		if got := match.Own(m); match.Check(got) || match.Eval(got, nil) {
			t.Fatalf("Own of one that may not be: %+v", got)
		}
	}
}

func TestNothingIsChanged(t *testing.T) { // R3: what is handed in stays, spare room too
	for _, m := range right() {
		handed := roomy(m)
		for _, l := range sets()[:4] {
			match.Eval(handed, l)
		}
		match.Check(handed)
		match.Text(handed)
		match.Put(nil, handed)
		match.Same(handed, m)
		match.Own(handed)
		if !equal(handed, m) || !kept(handed) {
			t.Fatalf("%+v became %+v", m, handed)
		}
	}
}

// roomy is a copy whose lists have spare room with marks in it.
func roomy(m api.Matcher) api.Matcher {
	values := append(slices.Clone(m.Values), "mark", "mark")
	kids := append(slices.Clone(m.Kids), api.Matcher{Op: 55}, api.Matcher{Op: 55})
	for i := range m.Kids {
		kids[i] = roomy(kids[i])
	}
	m.Values, m.Kids = values[:len(m.Values)], kids[:len(m.Kids)]
	return m
}

// kept tells whether roomy's marks are all there.
func kept(m api.Matcher) bool {
	for _, kid := range m.Kids {
		if !kept(kid) {
			return false
		}
	}
	n, k := len(m.Values), len(m.Kids)
	return m.Values[: n+1 : n+2][n] == "mark" && m.Kids[: k+1 : k+2][k].Op == 55 && m.Values[: n+2 : n+2][n+1] == "mark" && m.Kids[: k+2 : k+2][k+1].Op == 55
}
