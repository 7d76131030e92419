package label_test

import (
	"regexp"
	"slices"
	"strings"
	"testing"

	"varve/api"
	"varve/label"
)

// draws are numbers without an order, the same ones for the same seed.
type draws uint64

// below is one from 0 to n - 1.
func (d *draws) below(n int) int {
	*d = *d*6364136223846793005 + 1442695040888963407
	return int(uint64(*d) >> 33 % uint64(n))
}

// bytes are n bytes of any kind, those that need an escape often.
func (d *draws) bytes(n int) string {
	out := make([]byte, n)
	for i := range out {
		out[i] = byte(d.below(256))
		if d.below(3) == 0 {
			out[i] = "\"\\,= x\x00\x1f\x7f\x80\xff"[d.below(11)]
		}
	}
	return string(out)
}

// set is a set that Check allows.
func (d *draws) set() []api.Label {
	names := []string{"_", "_0", "a", "a0", "a_", "aa", "ab", "b", "job", "z9", strings.Repeat("q", 31), strings.Repeat("q", 32)}
	n := 1 + d.below(api.MaxLabels)
	for len(names) > n {
		drop := d.below(len(names))
		names = slices.Delete(names, drop, drop+1)
	}
	var l []api.Label
	for _, name := range names {
		l = append(l, api.Label{Name: name, Value: d.bytes(1 + d.below(6))})
	}
	slices.SortFunc(l, func(a, b api.Label) int { return strings.Compare(a.Name, b.Name) })
	return l
}

// set is labels by names and values in turn.
func set(l ...string) []api.Label {
	var out []api.Label
	for i := 0; i < len(l); i += 2 {
		out = append(out, api.Label{Name: l[i], Value: l[i+1]})
	}
	return out
}

// many are n labels with names that rise.
func many(n int) []api.Label {
	var out []api.Label
	for i := range n {
		out = append(out, api.Label{Name: "n" + string(rune('a'+i/26)) + string(rune('a'+i%26)), Value: "v"})
	}
	return out
}

// anyBytes are all bytes that there are, in texts of at most MaxValue.
func anyBytes() []string {
	var out []string
	for from := 0; from < 256; from += api.MaxValue {
		var s []byte
		for one := range api.MaxValue {
			s = append(s, byte(from+one))
		}
		out = append(out, string(s))
	}
	return out
}

// right are sets that Check allows.
func right() [][]api.Label {
	name, value := strings.Repeat("n", 32), strings.Repeat("v", 64)
	out := [][]api.Label{
		set("a", "1"),
		set("_", "\x00"),
		set("a", "1", "b", "2"),
		set("a", "1", "b", "1"),
		set("a", "2", "aa", "1", "b", "0"),
		set("_", "x", "a", "x", "a0", "x", "a_", "x", "aa", "x"),
		set(name[:31], "x", name, "y"),
		set(name, value),
		set(name, strings.Repeat("\xff", 64)),
		set("a", `"`, "b", `\`, "c", `,`, "d", `=`, "e", `a="x",b="y"`),
		set("a", " ", "b", "\t\n", "c", "\x7f", "d", "\x80", "e", "é", "f", "\xff\xfe"),
		many(7), many(8),
	}
	for _, s := range anyBytes() {
		out = append(out, set("a", s, "b", s[:1]))
	}
	d := draws(11)
	for range 200 {
		out = append(out, d.set())
	}
	return out
}

// wrong are sets that Check does not allow.
func wrong() [][]api.Label {
	out := [][]api.Label{
		nil, {}, many(9), many(10), many(300),
		set("", "x"), set("A", "x"), set("1", "x"), set("a b", "x"), set("a", "x", "b-", "y"), set("é", "x"), set(strings.Repeat("n", 33), "x"),
		set("a", ""), set("a", "x", "b", ""), set("a", "", "b", "x"), set("a", strings.Repeat("v", 65)), set("a", "x", "b", strings.Repeat("v", 65)),
		set("b", "x", "a", "x"), set("a", "x", "c", "x", "b", "x"), set("aa", "x", "a", "x"), set("a", "x", "_", "x"), set("a_", "x", "a0", "x"),
		set("a", "x", "a", "x"), set("a", "x", "a", "y"), set("a", "y", "a", "x"), set("a", "x", "b", "x", "b", "x"),
	}
	eight := many(8)
	eight[7].Name = eight[6].Name
	return append(out, eight)
}

// nameForm is P11.1's words, as a pattern.
var nameForm = regexp.MustCompile(`\A[a-z_][a-z0-9_]{0,31}\z`)

func TestName(t *testing.T) { // P11.1: lengths and bytes, as the first one and behind it
	for _, x := range []struct {
		s    string
		want bool
	}{
		{"", false}, {"a", true}, {"z", true}, {"_", true}, {"m", true}, {"0", false}, {"9", false}, {"__", true}, {"_0", true}, {"a9z_", true}, {"0a", false}, {"9_", false},
		{strings.Repeat("a", 31), true}, {strings.Repeat("_", 32), true}, {strings.Repeat("a", 33), false}, {strings.Repeat("z", 1<<16), false},
		{"A", false}, {"aB", false}, {"a b", false}, {" a", false}, {"a ", false}, {"a-b", false}, {"a=", false}, {"`", false}, {"{", false}, {"é", false}, {"a\x00", false}, {"\xe1", false},
	} {
		if got := label.Name(x.s); got != x.want || nameForm.MatchString(x.s) != x.want {
			t.Errorf("Name(%q) = %t", x.s, got)
		}
	}
	for one := range 256 {
		letter := one >= 'a' && one <= 'z' || one == '_'
		digit := one >= '0' && one <= '9'
		s := string([]byte{byte(one)})
		if label.Name(s) != letter || label.Name(s+"a") != letter {
			t.Errorf("Name(%q) = %t", s, label.Name(s))
		}
		for _, behind := range []string{"a" + s, "_" + s + "0", strings.Repeat("x", 31) + s} {
			if label.Name(behind) != (letter || digit) {
				t.Errorf("Name(%q) = %t", behind, label.Name(behind))
			}
		}
	}
}

func TestCheck(t *testing.T) { // P11.1
	for _, l := range right() {
		if !label.Check(l) {
			t.Errorf("Check(%q) = false", l)
		}
	}
	for _, l := range wrong() {
		if label.Check(l) {
			t.Errorf("Check(%q) = true", l)
		}
	}
	for one := range 256 {
		for _, v := range []string{string([]byte{byte(one)}), strings.Repeat(string([]byte{byte(one)}), 64)} {
			if !label.Check(set("a", v)) || label.Check(set("a", v+strings.Repeat("x", 65-len(v)))) {
				t.Errorf("Check of the value %q", v)
			}
		}
	}
}

func TestCheckEachPlace(t *testing.T) { // P11.1: each label is looked at, not the first or the last one alone
	for n := 1; n <= 8; n++ {
		for i := range n {
			for _, bad := range []api.Label{{Name: "", Value: "v"}, {Name: "nzz", Value: ""}, {Name: "0", Value: "v"}, {Name: "nZ", Value: "v"}} {
				l := many(n)
				l[i] = bad
				if label.Check(l) {
					t.Errorf("Check(%q) = true", l)
				}
			}
			l := many(n)
			l[i].Value = strings.Repeat("v", 65)
			if label.Check(l) {
				t.Errorf("Check of %d labels with a long value at %d", n, i)
			}
			if i == 0 {
				continue
			}
			l = many(n)
			l[i-1], l[i] = l[i], l[i-1]
			if label.Check(l) {
				t.Errorf("Check(%q) = true", l)
			}
			l = many(n)
			l[i-1].Name = l[i].Name
			if label.Check(l) {
				t.Errorf("Check(%q) = true", l)
			}
		}
	}
}

func TestMake(t *testing.T) { // P11.1
	long := strings.Repeat("v", 64)
	for _, x := range []struct {
		l, want []api.Label
	}{
		{set("b", "2", "a", "1", "c", ""), set("a", "1", "b", "2")}, // the chapter's
		{set("a", "1"), set("a", "1")},
		{set("a", "", "b", "x"), set("b", "x")},
		{set("c", "1", "b", "2", "a", "3"), set("a", "3", "b", "2", "c", "1")},
		{set("aa", "1", "a_", "2", "a0", "3", "a", "4", "_", "5"), set("_", "5", "a", "4", "a0", "3", "a_", "2", "aa", "1")},
		{set("a", "", "a", "x"), set("a", "x")},
		{set("a", "x", "b", "y", "a", ""), set("a", "x", "b", "y")},
		{set("a", "", "a", "", "b", long, "a", ""), set("b", long)},
		{set("", "", "A", "", "0", "", strings.Repeat("n", 33), "", "a", "x"), set("a", "x")},
		{set("b", "\x00", "a", "\xff"), set("a", "\xff", "b", "\x00")},
		{append(many(8), set("b", "", "", "", "zz", "")...), many(8)},
		{append(set("b", "", "b", ""), many(8)...), many(8)},
	} {
		got, e := label.Make(x.l)
		if !slices.Equal(got, x.want) || e != api.OK {
			t.Errorf("Make(%q) = %q, %d", x.l, got, e)
		}
	}
	for _, l := range append(slices.DeleteFunc(wrong(), hasEmptyOrNoOrder),
		nil, []api.Label{}, set("a", ""), set("a", "", "b", "", "", ""),
		set("a", "x", "a", "x"), set("a", "x", "b", "z", "a", "y"), set("b", "x", "a", "", "b", "x"),
		append(many(9), set("b", "")...), append(set("", ""), many(9)...),
		set("b", "x", "A", "y"), set("b", "x", "", "y"), set("b", strings.Repeat("v", 65), "a", "y"),
	) {
		if got, e := label.Make(l); len(got) != 0 || e != api.ErrInvalid {
			t.Errorf("Make(%q) = %q, %d", l, got, e)
		}
	}
}

// hasEmptyOrNoOrder is what Make mends.
func hasEmptyOrNoOrder(l []api.Label) bool {
	for i, one := range l {
		if one.Value == "" || i > 0 && l[i-1].Name > one.Name {
			return true
		}
	}
	return false
}

func TestMakeOfAnyOrder(t *testing.T) { // P11.1: however they lie, and with empty ones among them
	d := draws(5)
	for _, l := range right() {
		if got, e := label.Make(l); !slices.Equal(got, l) || e != api.OK {
			t.Fatalf("Make(%q) = %q, %d", l, got, e)
		}
		for range 10 {
			mixed := slices.Clone(l)
			for range d.below(4) {
				mixed = append(mixed, api.Label{Name: []string{"a", "", "zz", "A", l[0].Name}[d.below(5)]})
			}
			for i := range mixed {
				j := d.below(i + 1)
				mixed[i], mixed[j] = mixed[j], mixed[i]
			}
			if got, e := label.Make(mixed); !slices.Equal(got, l) || e != api.OK {
				t.Fatalf("Make(%q) = %q, %d", mixed, got, e)
			}
			twice := append(mixed, api.Label{Name: l[0].Name, Value: "other"})
			if got, e := label.Make(twice); len(got) != 0 || e != api.ErrInvalid {
				t.Fatalf("Make(%q) = %q, %d", twice, got, e)
			}
		}
	}
}

func TestValue(t *testing.T) { // P11.1
	for _, x := range []struct {
		l          []api.Label
		name, want string
	}{
		{set("a", "1", "b", "2"), "a", "1"},
		{set("a", "1", "b", "2"), "b", "2"},
		{set("a", "1", "b", "2"), "c", ""},
		{set("a", "1", "b", "2"), "", ""},
		{set("a", "1", "b", "2"), "1", ""},
		{set("aa", "1"), "a", ""},
		{set("a", "1"), "aa", ""},
		{set("a", "1"), "A", ""},
		{set("a", "1", "a", "2"), "a", "1"},
		{set("a", "", "a", "2"), "a", ""},
		{set("b", "1", "a", "2", "b", "3"), "b", "1"},
		{set("b", "1", "a", "2"), "a", "2"},
		{set("", "1", "A b", "2"), "", "1"},
		{set("", "1", "A b", "2"), "A b", "2"},
		{set("a", strings.Repeat("v", 1000)), "a", strings.Repeat("v", 1000)},
		{append(many(300), set("z", "x")...), "z", "x"},
		{nil, "a", ""}, {nil, "", ""}, {[]api.Label{}, "a", ""},
	} {
		if got := label.Value(x.l, x.name); got != x.want {
			t.Errorf("Value(%q, %q) = %q", x.l, x.name, got)
		}
	}
}

// flat is a set as a text of its own whose bytes are in Cmp's order: a byte is two, both above the ends of a name and of a value.
func flat(l []api.Label) string {
	var out []byte
	put := func(s string) {
		for i := range len(s) {
			out = append(out, 1+s[i]>>4, 1+s[i]&15)
		}
		out = append(out, 0)
	}
	for _, one := range l {
		// A label begins above the end of all, for a set that goes on comes behind.
		out = append(out, 1)
		put(one.Name)
		put(one.Value)
	}
	return string(out)
}

func TestCmp(t *testing.T) { // P11.2: each pair, the lesser one first, and turned round
	for _, x := range []struct{ a, b []api.Label }{
		{set("a", "1"), set("b", "1")},
		{set("a", "2"), set("b", "1")},
		{set("a", "1"), set("a", "2")},
		{set("a", "10"), set("a", "2")},
		{set("a", "1"), set("a", "10")},
		{set("a", ""), set("a", "1")},
		{set("a", "9"), set("aa", "0")},
		{set("a0", "9"), set("a_", "0")},
		{set("_", "9"), set("a", "0")},
		{set("a", "1"), set("a", "1", "b", "1")},
		{set("a", "1", "z", "9"), set("a", "2")},
		{set("a", "1", "z", "9"), set("a", "10")},
		{set("a", "1", "z", "9"), set("b", "0")},
		{set("a", "1", "b", "1"), set("a", "1", "b", "2")},
		{set("a", "1", "b", "9"), set("a", "1", "c", "0")},
		{set("a", "1", "b", "1", "c", "1"), set("a", "1", "b", "2")},
		{nil, set("a", "1")},
		{nil, set("", "")},
		{[]api.Label{}, set("a", "1")},
		{set("a", "\x7f"), set("a", "\x80")},
		{set("a", "z"), set("a", "\xff")},
		{set("a", "\x80"), set("a", "\xff")},
		{set("a", "\xc3\xa9"), set("a", "\xff")},
		{set("a", "\x00"), set("a", "\x00\x00")},
		{set("a", "\x00\xff"), set("a", "\x01")},
		{set("a\x7f", "2"), set("a\x80", "1")},
		{set("ab", "c"), set("abc", "")},
		{many(8), many(9)},
		{many(300)[:299], many(300)},
	} {
		if there, back := label.Cmp(x.a, x.b), label.Cmp(x.b, x.a); there != -1 || back != 1 {
			t.Errorf("Cmp(%q, %q) = %d, turned round %d", x.a, x.b, there, back)
		}
		if label.Cmp(x.a, x.a) != 0 || label.Cmp(x.b, slices.Clone(x.b)) != 0 {
			t.Errorf("Cmp of %q with itself", x.a)
		}
	}
	if label.Cmp(nil, nil) != 0 || label.Cmp(nil, []api.Label{}) != 0 || label.Cmp([]api.Label{}, nil) != 0 {
		t.Error("Cmp of none")
	}
}

func TestCmpOrders(t *testing.T) { // P11.2, P11.5: as one text that is in that order; 0 just where Text is the same
	all := append(right()[:80], wrong()...)
	allowed := 80
	for i, a := range all {
		for j, b := range all {
			got := label.Cmp(a, b)
			if want := strings.Compare(flat(a), flat(b)); got != want {
				t.Fatalf("Cmp(%q, %q) = %d, not %d", a, b, got, want)
			}
			if i < allowed && j < allowed && (got == 0) != (label.Text(a) == label.Text(b)) {
				t.Fatalf("Cmp(%q, %q) = %d, but the texts are %s and %s", a, b, got, label.Text(a), label.Text(b))
			}
		}
	}
}

func TestCmpOfNearSets(t *testing.T) { // P11.5: of all sets with few names and values: an order, and 0 just for the same text
	var near [][]api.Label
	values := []string{"\x00", "\"", "0", "00", "\\", "\\x00", "x00", "\xff"}
	for _, v := range values {
		near = append(near, set("a", v), set("aa", v))
		for _, w := range values {
			near = append(near, set("a", v, "aa", w))
		}
	}
	slices.SortFunc(near, label.Cmp)
	for i, a := range near {
		for j, b := range near {
			want := 0
			if i < j {
				want = -1
			}
			if i > j {
				want = 1
			}
			if label.Cmp(a, b) != want || (label.Text(a) == label.Text(b)) != (i == j) {
				t.Fatalf("Cmp(%q, %q) = %d, not %d", a, b, label.Cmp(a, b), want)
			}
		}
	}
}

func TestWhatIsHandedInStays(t *testing.T) { // R3: neither a set nor its spare room is turned
	for _, l := range append(right(), wrong()...) {
		room := append(slices.Clone(l), set("spare", "room", "b", "", "a", "x")...)
		before := slices.Clone(room)
		in := room[:len(l)]
		label.Check(in)
		label.Make(in)
		label.Value(in, "a")
		label.Cmp(in, in)
		label.Text(in)
		label.Put(nil, in)
		label.Put(make([]byte, 3, 99), in)
		if !slices.Equal(room, before) {
			t.Fatalf("%q became %q", before, room)
		}
	}
}

func TestMakeIsNewMemory(t *testing.T) { // R3
	for _, l := range [][]api.Label{set("a", "1", "b", "2"), set("b", "2", "a", "1"), set("a", "1", "b", "2", "c", ""), many(8)} {
		before := slices.Clone(l)
		got, _ := label.Make(l)
		want := slices.Clone(got)
		got = append(got[:cap(got)], api.Label{})
		for i := range got {
			got[i] = api.Label{Name: "turned"}
		}
		if !slices.Equal(l, before) {
			t.Errorf("%q became %q", before, l)
		}
		again, _ := label.Make(l)
		for i := range l {
			l[i] = api.Label{Name: "turned"}
		}
		if !slices.Equal(again, want) {
			t.Errorf("the answer became %q", again)
		}
	}
}
