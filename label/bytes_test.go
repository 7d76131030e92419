package label_test

import (
	"bytes"
	"encoding/binary"
	"math"
	"slices"
	"strings"
	"testing"

	"varve/api"
	"varve/label"
)

// slowPut is P11.4's words, by the library.
func slowPut(b []byte, l []api.Label) []byte {
	out := binary.AppendUvarint(bytes.Clone(b), uint64(len(l)))
	for _, one := range l {
		for _, s := range []string{one.Name, one.Value} {
			out = append(binary.AppendUvarint(out, uint64(len(s))), s...)
		}
	}
	return out
}

// refused checks that Get answers nothing.
func refused(t *testing.T, b []byte, at int) {
	t.Helper()
	if l, next, ok := label.Get(b, at); len(l) != 0 || next != 0 || ok {
		t.Errorf("Get(%x, %d) = %q, %d, %t", b[:min(len(b), 60)], at, l, next, ok)
	}
}

// gets gets what may stand there: a set that Check allows, and that is put as the same bytes, or nothing.
func gets(t *testing.T, b []byte, at int) {
	t.Helper()
	l, next, ok := label.Get(b, at)
	if !ok {
		refused(t, b, at)
		return
	}
	if !label.Check(l) || next > len(b) || !bytes.Equal(slowPut(b[:at], l), b[:next]) {
		t.Fatalf("Get(%x, %d) = %q, %d", b, at, l, next)
	}
}

func TestPut(t *testing.T) { // P11.4
	for _, x := range []struct {
		l    []api.Label
		want string
	}{
		{set("a", "1", "b", "2"), "\x02\x01a\x011\x01b\x012"},
		{set("a", "\x00"), "\x01\x01a\x01\x00"},
		{set("job", "x y"), "\x01\x03job\x03x y"},
		{nil, "\x00"},
		{[]api.Label{}, "\x00"},
		{set("", ""), "\x01\x00\x00"},
		{set("b", "", "a", strings.Repeat("v", 128)), "\x02\x01b\x00\x01a\x80\x01" + strings.Repeat("v", 128)},
	} {
		for _, ahead := range []string{"", "x", "\x80\xff"} {
			if got := label.Put([]byte(ahead), x.l); string(got) != ahead+x.want {
				t.Errorf("Put(%x, %q) = %x", ahead, x.l, got)
			}
		}
		if got := label.Put(nil, x.l); string(got) != x.want {
			t.Errorf("Put(nil, %q) = %x", x.l, got)
		}
	}
	for _, l := range append(right(), wrong()...) {
		if got, want := label.Put([]byte("x"), l), slowPut([]byte("x"), l); !bytes.Equal(got, want) {
			t.Errorf("Put of %q = %x, not %x", l, got, want)
		}
	}
}

func TestWhatWasPutIsGot(t *testing.T) { // P11.4: with bytes ahead of it and behind it
	for _, l := range right() {
		for _, ahead := range []string{"", "\x80", "abc"} {
			b := label.Put([]byte(ahead), l)
			for _, behind := range []string{"", "\x00", "\xff\xff", string(b)} {
				got, next, ok := label.Get(append(bytes.Clone(b), behind...), len(ahead))
				if !slices.Equal(got, l) || next != len(b) || !ok {
					t.Errorf("%q is got as %q, %d, %t", l, got, next, ok)
				}
			}
		}
	}
}

func TestManyInARow(t *testing.T) { // P11.4: the place behind one is the next one's
	var b []byte
	for _, l := range right() {
		b = label.Put(b, l)
	}
	at := 0
	for _, l := range right() {
		got, next, ok := label.Get(b, at)
		if !slices.Equal(got, l) || next != at+len(label.Put(nil, l)) || !ok {
			t.Fatalf("at %d: %q, %d, %t, not %q", at, got, next, ok, l)
		}
		at = next
	}
	if at != len(b) {
		t.Errorf("%d bytes are left", len(b)-at)
	}
}

func TestGetOfWrongSets(t *testing.T) { // P11.4: put so, but Check does not allow them
	for _, l := range wrong() {
		for _, ahead := range []string{"", "xy"} {
			refused(t, append(slowPut([]byte(ahead), l), "behind"...), len(ahead))
			refused(t, slowPut([]byte(ahead), l), len(ahead))
		}
	}
}

func TestGetNone(t *testing.T) { // P11.4: numbers that are not the shortest, that are too great, lengths that are not true
	for _, b := range []string{
		"", "\x00", "\x80", "\x01", "\x01\x01", "\x01\x01a", "\x01\x01a\x01", "\x01\x01a\x00", "\x01\x00\x01x", "\x01\x01a\x02x",
		"\x81\x00\x01a\x01x", "\x01\x81\x00a\x01x", "\x01\x01a\x81\x00x",
		"\x02\x01a\x01x", "\x09\x01a\x01x", "\xff\xff\xff\xff\x0f\x01a\x01x", "\xff\xff\xff\xff\xff\xff\xff\xff\xff\x01\x01a\x01x", "\x81\x80\x80\x80\x80\x80\x80\x80\x80\x02\x01a\x01x",
		"\x81\x80\x80\x80\x10\x01a\x01x", "\x01\xff\xff\xff\xff\xff\xff\xff\xff\xff\x01a\x01x", "\x01\x01a\xff\xff\xff\xff\xff\xff\xff\xff\xff\x01x",
		"\x01\x21" + strings.Repeat("n", 33) + "\x01x", "\x01\x01a\x41" + strings.Repeat("v", 65),
		"\x02\x01b\x01x\x01a\x01x", "\x02\x01a\x01x\x01a\x01x", "\x01\x01A\x01x", "\x01\x010\x01x",
	} {
		for _, ahead := range []string{"", "\x01", "abc"} {
			refused(t, []byte(ahead+b), len(ahead))
		}
	}
}

func TestGetPlaces(t *testing.T) { // P11.4: places that are none of b's, whatever stands in its spare room
	whole := slowPut(nil, set("a", "1"))
	for _, b := range [][]byte{nil, {}, whole, whole[:0], whole[:2], {0}} {
		for _, at := range []int{-1, -2, math.MinInt, len(b), len(b) + 1, len(b) + 1000, math.MaxInt} {
			refused(t, b, at)
		}
	}
	for n := range whole {
		refused(t, whole[:n], 0)
		refused(t, whole[:n:n], 0)
	}
}

func TestGetCutAndTurned(t *testing.T) { // P11.4: cut at every place, from every place on, with a byte turned
	for _, l := range right()[:60] {
		b := label.Put([]byte("x"), l)
		for n := range len(b) {
			refused(t, b[:n:n], 1)
			gets(t, b, n)
		}
		for at := 1; at < len(b); at++ {
			turned := bytes.Clone(b)
			for one := range 256 {
				turned[at] = byte(one)
				gets(t, turned, 1)
			}
		}
	}
}

func TestGetOfAnyBytes(t *testing.T) { // P11.4, R1: all short ones of few bytes
	const few = "\x00\x01\x02\x03a_0\x80\xff"
	var grow func(b []byte, left int)
	grow = func(b []byte, left int) {
		gets(t, b, 0)
		for i := range len(few) {
			if left > 0 {
				grow(append(b[:len(b):len(b)], few[i]), left-1)
			}
		}
	}
	grow(nil, 6)
}

func TestPutTurnsNoRoom(t *testing.T) { // R3: what stands behind b stays, and what is told is apart from b
	for _, l := range right()[:30] {
		for _, n := range []int{0, 1, 5} {
			room := bytes.Repeat([]byte{0xaa}, 2000)
			got := label.Put(room[:n], l)
			if !bytes.Equal(got, slowPut(room[:n], l)) {
				t.Fatalf("Put behind %d bytes = %x", n, got)
			}
			clear(got[:cap(got)])
			if !bytes.Equal(room, bytes.Repeat([]byte{0xaa}, 2000)) {
				t.Fatal("Put turned what it was handed")
			}
			again := label.Put(room[:n], l)
			want := bytes.Clone(again)
			clear(room)
			if !bytes.Equal(again, want) {
				t.Fatal("what Put told hangs on what it was handed")
			}
		}
	}
}

func TestGetIsNewMemory(t *testing.T) { // R3
	for _, want := range right()[:30] {
		b := label.Put(nil, want)
		before := bytes.Clone(b)
		one, _, _ := label.Get(b, 0)
		two, _, _ := label.Get(b, 0)
		one = append(one[:cap(one)], api.Label{})
		for i := range one {
			one[i] = api.Label{Name: "turned"}
		}
		if !bytes.Equal(b, before) {
			t.Fatalf("%x became %x", before, b)
		}
		clear(b)
		if !slices.Equal(two, want) {
			t.Fatalf("the answer became %q", two)
		}
	}
}
