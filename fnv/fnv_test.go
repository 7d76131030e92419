package fnv_test

import (
	stdfnv "hash/fnv"
	"iter"
	"math"
	"math/big"
	"slices"
	"strings"
	"testing"

	"varve/fnv"
)

// starts are numbers to go on with: none, the greatest one, single bits, and others.
var starts = []uint64{0, math.MaxUint64, 1, 2, 255, 256, 1 << 32, 1 << 63, math.MaxUint64 - 1, 0x100000001b3, 0xcbf29ce484222325, 0x5555555555555555, 0xaaaaaaaaaaaaaaaa}

// texts are things of all kinds: of no byte, of letters, of bytes that are none.
func texts() []string {
	return []string{
		"", "a", "b", "ab", "ba", "foobar", " ", "\x00", "\x00\x00", "\xff", "\xff\xff\xff", "\x80", "\xc3\x28", "\xed\xa0\x80", "\xf0\x9f",
		"é", "世界", "a\x00b", "a\xffb", "\ufffd", "\n\r\t", all256(), strings.Repeat("varve", 100), string(mixed(1000, 9)),
	}
}

// all256 is a text of every byte.
func all256() string {
	b := make([]byte, 256)
	for i := range b {
		b[i] = byte(i)
	}
	return string(b)
}

// mixed are n bytes, the same ones for a seed in each run.
func mixed(n int, seed uint64) []byte {
	out := make([]byte, n)
	for i := range out {
		seed = seed*6364136223846793005 + 1442695040888963407
		out[i] = byte(seed >> 56)
	}
	return out
}

// slow is P6.1's words, by numbers of any length.
func slow(h uint64, s string) uint64 {
	factor, _ := new(big.Int).SetString("100000001b3", 16)
	whole := new(big.Int).Lsh(big.NewInt(1), 64)
	n := new(big.Int).SetUint64(h)
	for _, one := range []byte(s) {
		n.Xor(n, big.NewInt(int64(one)))
		n.Mul(n, factor)
		n.Mod(n, whole)
	}
	return n.Uint64()
}

// library is a text's number as the library has it.
func library(s string) uint64 {
	h := stdfnv.New64a()
	h.Write([]byte(s))
	return h.Sum64()
}

// numbers are those of a list by the library.
func numbers(l []string) []uint64 {
	var out []uint64
	for _, s := range l {
		out = append(out, library(s))
	}
	return out
}

// told is what an iterator tells, to its end.
func told(each iter.Seq[uint64]) []uint64 {
	var out []uint64
	for h := range each {
		out = append(out, h)
	}
	return out
}

func TestExamples(t *testing.T) { // P6.1: the chapter's, and others that are known
	for _, x := range []struct {
		text   string
		number uint64
	}{
		{"", 0xcbf29ce484222325},
		{"a", 0xaf63dc4c8601ec8c},
		{"b", 0xaf63df4c8601f1a5},
		{"foobar", 0x85944171f73967e8},
	} {
		if got := fnv.Of(x.text); got != x.number {
			t.Errorf("Of(%q) = %016x, not %016x", x.text, got, x.number)
		}
	}
}

func TestMoreOfNoByte(t *testing.T) { // P6.1
	for _, h := range starts {
		if got := fnv.More(h, ""); got != h {
			t.Errorf("More(%x, no byte) = %x", h, got)
		}
	}
}

func TestMoreOfOneByte(t *testing.T) { // P6.1: each of the 256, behind each number
	for v := range 256 {
		one := string([]byte{byte(v)})
		for _, h := range starts {
			if got, want := fnv.More(h, one), slow(h, one); got != want {
				t.Errorf("More(%x, %02x) = %x, not %x", h, v, got, want)
			}
		}
		if got, want := fnv.Of(one), library(one); got != want {
			t.Errorf("Of(%02x) = %x, not %x", v, got, want)
		}
	}
}

func TestMoreOfTexts(t *testing.T) { // P6.1: of all kinds, behind each number
	for _, s := range texts() {
		for _, h := range starts {
			if got, want := fnv.More(h, s), slow(h, s); got != want {
				t.Errorf("More(%x, %q) = %x, not %x", h, s, got, want)
			}
		}
	}
	for n := range 300 {
		s := string(mixed(n, uint64(n)))
		h := slow(uint64(n), s)
		if got, want := fnv.More(h, s), slow(h, s); got != want {
			t.Fatalf("More(%x, %q) = %x, not %x", h, s, got, want)
		}
	}
}

func TestMoreAtItsEdges(t *testing.T) { // P6.1: what 0 and the greatest number come to
	for _, x := range []struct {
		h    uint64
		s    string
		want uint64
	}{
		{0, "\x00", 0},
		{0, "\x00\x00\x00", 0},
		{0, "\x01", 0x100000001b3},
		{0x61, "a", 0},
		{math.MaxUint64, "\x00", 0xfffffefffffffe4d},
		{math.MaxUint64, "\xff", 0xfffefffffffe4d00},
	} {
		if got := fnv.More(x.h, x.s); got != x.want {
			t.Errorf("More(%x, %q) = %x, not %x", x.h, x.s, got, x.want)
		}
	}
}

func TestOfIsTheLibrarys(t *testing.T) { // P6.1
	for _, s := range texts() {
		if got, want := fnv.Of(s), library(s); got != want {
			t.Errorf("Of(%q) = %x, not %x", s, got, want)
		}
	}
	for n := range 300 {
		s := string(mixed(n, uint64(n)+1000))
		if got, want := fnv.Of(s), library(s); got != want {
			t.Fatalf("Of(%q) = %x, not %x", s, got, want)
		}
	}
	long := string(mixed(1<<20, 7))
	if got, want := fnv.Of(long), library(long); got != want {
		t.Errorf("Of 2^20 bytes = %x, not %x", got, want)
	}
}

func TestNothingIsKept(t *testing.T) { // P6.1, R4
	around := "xfoobary"
	for range 3 {
		if fnv.Of("foobar") != 0x85944171f73967e8 || fnv.Of(around[1:7]) != 0x85944171f73967e8 {
			t.Error("one text has two numbers")
		}
		fnv.More(math.MaxUint64, all256())
		told(fnv.Each(texts()))
	}
}

func TestCutAnywhere(t *testing.T) { // P6.2: at each place, the first and the last among them
	for _, s := range texts() {
		want := library(s)
		for i := range len(s) + 1 {
			if got := fnv.More(fnv.Of(s[:i]), s[i:]); got != want {
				t.Errorf("%q cut at %d: %x, not %x", s, i, got, want)
			}
		}
	}
}

func TestCutAtTwoPlaces(t *testing.T) { // P6.2, behind any number
	s := all256()[100:160]
	for _, h := range starts {
		want := slow(h, s)
		for i := range len(s) + 1 {
			for j := i; j <= len(s); j++ {
				if got := fnv.More(fnv.More(fnv.More(h, s[:i]), s[i:j]), s[j:]); got != want {
					t.Fatalf("from %x cut at %d and %d: %x, not %x", h, i, j, got, want)
				}
			}
		}
	}
}

func TestPutTogether(t *testing.T) { // P6.2: any two texts
	for _, a := range texts() {
		for _, b := range texts() {
			if got, want := fnv.More(fnv.Of(a), b), library(a+b); got != want {
				t.Errorf("%q and %q: %x, not %x", a, b, got, want)
			}
		}
	}
}

func TestEachInOrder(t *testing.T) { // P6.1
	turned := texts()
	slices.Reverse(turned)
	for _, l := range [][]string{
		{""}, {"a"}, {"\xff\xfe"}, {"a", "a"}, {"", ""}, {"", "", ""}, {"x", "", "x"}, {"b", "a"}, {"", "a"}, {"a", ""}, {"ab", "c"}, {"a", "bc"},
		texts(), turned,
	} {
		if got, want := told(fnv.Each(l)), numbers(l); !slices.Equal(got, want) {
			t.Errorf("Each(%q) tells %x, not %x", l, got, want)
		}
	}
}

func TestEachOfNone(t *testing.T) { // P6.1, R3: nil and an empty list are one; spare room is none of it
	for _, l := range [][]string{nil, {}, []string{"a", "b"}[:0]} {
		each := fnv.Each(l)
		if each == nil {
			t.Fatal("no iterator")
		}
		for range 2 {
			for h := range each {
				t.Errorf("%x is told", h)
			}
		}
	}
}

func TestEachIsLeftEarlyAndGoneThroughAgain(t *testing.T) { // P6.1, R6
	l := texts()
	want := numbers(l)
	each := fnv.Each(l)
	for n := range l {
		var seen []uint64
		for h := range each {
			seen = append(seen, h)
			if len(seen) == n+1 {
				break
			}
		}
		if !slices.Equal(seen, want[:n+1]) {
			t.Errorf("left behind %d: %x", n, seen)
		}
	}
	for range 2 {
		if got := told(each); !slices.Equal(got, want) {
			t.Errorf("gone through again: %x", got)
		}
	}
}

func TestEachInEach(t *testing.T) { // P6.1, R6: each loop goes its own way
	l := []string{"a", "b", "", "a"}
	want := numbers(l)
	each := fnv.Each(l)
	n := 0
	for h := range each {
		if h != want[n] {
			t.Errorf("%d: %x", n, h)
		}
		if got := told(each); !slices.Equal(got, want) {
			t.Errorf("the inner loop of %d: %x", n, got)
		}
		n++
	}
	if n != len(l) {
		t.Errorf("the outer loop tells %d", n)
	}
}

func TestEachAsksNoMoreOfALoopThatIsLeft(t *testing.T) { // P6.1, R6
	for n := range 5 {
		calls := 0
		fnv.Each([]string{"a", "b", "c", "d", "e"})(func(uint64) bool {
			calls++
			return calls <= n
		})
		if calls != n+1 {
			t.Errorf("left behind %d: %d calls", n, calls)
		}
	}
}

func TestEachTellsWhatWasThere(t *testing.T) { // P6.1, R3, R6: a list that is changed behind the call
	room := append(make([]string, 0, 8), "a", "", "b", "spare")
	l := room[:3]
	want := numbers(l)
	each := fnv.Each(l)
	for i := range room {
		room[i] = "changed"
	}
	_ = append(l, "more")
	for range 2 {
		if got := told(each); !slices.Equal(got, want) {
			t.Errorf("behind a change: %x, not %x", got, want)
		}
	}
	if got := told(fnv.Each(l)); !slices.Equal(got, numbers(l)) {
		t.Errorf("asked anew: %x", got)
	}
}

func TestEachStaysWhileItsLoopChangesTheList(t *testing.T) { // P6.1, R6
	l := []string{"a", "b", "c"}
	want := numbers(l)
	each := fnv.Each(l)
	var got []uint64
	for h := range each {
		got = append(got, h)
		clear(l)
	}
	if !slices.Equal(got, want) || !slices.Equal(told(each), want) {
		t.Errorf("%x, not %x", got, want)
	}
}

func TestEachLeavesTheList(t *testing.T) { // R3: spare room included
	room := append(make([]string, 0, 8), "b", "a", "", "spare")
	was := slices.Clone(room[:8])
	each := fnv.Each(room[:3])
	told(each)
	for range each {
		break
	}
	if !slices.Equal(room[:8], was) {
		t.Errorf("%q, not %q", room[:8], was)
	}
}

func TestTwoEachesHaveNothingInCommon(t *testing.T) { // R4
	a, b := fnv.Each([]string{"a", "x"}), fnv.Each([]string{"b"})
	for range 2 {
		if !slices.Equal(told(a), numbers([]string{"a", "x"})) || !slices.Equal(told(b), numbers([]string{"b"})) {
			t.Error("one tells what the other was asked")
		}
	}
}
