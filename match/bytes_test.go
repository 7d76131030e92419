package match_test

import (
	"bytes"
	"encoding/binary"
	"math"
	"strings"
	"testing"

	"varve/api"
	"varve/match"
)

// slowPut is P12.4's words, by the library.
func slowPut(b []byte, m api.Matcher) []byte {
	out := binary.AppendUvarint(bytes.Clone(b), uint64(m.Op))
	text := func(s string) { out = append(binary.AppendUvarint(out, uint64(len(s))), s...) }
	switch m.Op {
	case api.Is, api.Isnt, api.Begins:
		text(m.Name)
		text(m.Value)
	case api.Among:
		text(m.Name)
		out = binary.AppendUvarint(out, uint64(len(m.Values)))
		for _, v := range m.Values {
			text(v)
		}
	case api.And, api.Or:
		out = binary.AppendUvarint(out, uint64(len(m.Kids)))
		for _, kid := range m.Kids {
			out = slowPut(out, kid)
		}
	case api.Not:
		for _, kid := range m.Kids {
			out = slowPut(out, kid)
		}
	}
	return out
}

// refused checks that Get answers nothing.
func refused(t *testing.T, b []byte, at int) {
	t.Helper()
	if m, next, ok := match.Get(b, at); !zero(m) || next != 0 || ok {
		t.Errorf("Get(%x, %d) = %+v, %d, %t", b[:min(len(b), 60)], at, m, next, ok)
	}
}

// gets gets what may stand there: a matcher that Check allows, and that is put as the same bytes, or nothing.
func gets(t *testing.T, b []byte, at int) bool {
	t.Helper()
	m, next, ok := match.Get(b, at)
	if !ok {
		refused(t, b, at)
		return false
	}
	if !slowCheck(m) || next > len(b) || !bytes.Equal(slowPut(b[:at], m), b[:next]) {
		t.Fatalf("Get(%x, %d) = %+v, %d", b, at, m, next)
	}
	return true
}

func TestPut(t *testing.T) { // P12.4
	for _, x := range []struct {
		m    api.Matcher
		want string
	}{
		{api.Matcher{}, "\x00"},
		{is("a", "x"), "\x01\x01a\x01x"}, {is("ab", ""), "\x01\x02ab\x00"},
		{isnt("a", "xyz"), "\x02\x01a\x03xyz"},
		{begins("a", "\x00"), "\x03\x01a\x01\x00"},
		{among("a", "x"), "\x04\x01a\x01\x01x"}, {among("a", "", "y", "zz"), "\x04\x01a\x03\x00\x01y\x02zz"},
		{and(), "\x05\x00"}, {or(), "\x06\x00"}, {and(api.Matcher{}), "\x05\x01\x00"}, {or(api.Matcher{}, and()), "\x06\x02\x00\x05\x00"},
		{not(api.Matcher{}), "\x07\x00"}, {not(not(or())), "\x07\x07\x06\x00"},
		{and(api.Matcher{}, not(is("a", "x"))), "\x05\x02\x00\x07\x01\x01a\x01x"},
		{or(among("a", "x"), isnt("b", "y"), api.Matcher{}), "\x06\x03\x04\x01a\x01\x01x\x02\x01b\x01y\x00"},
	} {
		for _, ahead := range []string{"", "x", "\x80\xff"} {
			if got := match.Put([]byte(ahead), x.m); string(got) != ahead+x.want {
				t.Errorf("Put(%x, %+v) = %x", ahead, x.m, got)
			}
			if m, next, ok := match.Get([]byte(ahead+x.want), len(ahead)); !equal(m, x.m) || next != len(ahead+x.want) || !ok {
				t.Errorf("Get(%x, %d) = %+v, %d, %t", ahead+x.want, len(ahead), m, next, ok)
			}
		}
		if got := match.Put(nil, x.m); string(got) != x.want {
			t.Errorf("Put(nil, %+v) = %x", x.m, got)
		}
	}
}

func TestWhatWasPutIsGot(t *testing.T) { // P12.4: with bytes ahead of it and behind it
	for _, m := range right() {
		for _, ahead := range []string{"", "\x80", "abc"} {
			b := match.Put([]byte(ahead), m)
			if !bytes.Equal(b, slowPut([]byte(ahead), m)) {
				t.Fatalf("Put(%x, %+v) = %x", ahead, m, b)
			}
			for _, behind := range []string{"", "\x00", "\xff\xff", string(b)} {
				got, next, ok := match.Get(append(bytes.Clone(b), behind...), len(ahead))
				if !equal(got, m) || !match.Same(got, m) || next != len(b) || !ok {
					t.Fatalf("%+v is got as %+v, %d, %t", m, got, next, ok)
				}
			}
		}
	}
}

func TestManyInARow(t *testing.T) { // P12.4: the place behind one is the next one's
	var b []byte
	for _, m := range right()[:200] {
		b = match.Put(b, m)
	}
	at := 0
	for _, m := range right()[:200] {
		got, next, ok := match.Get(b, at)
		if !equal(got, m) || next != at+len(slowPut(nil, m)) || !ok {
			t.Fatalf("at %d: %+v, %d, %t, not %+v", at, got, next, ok, m)
		}
		at = next
	}
	if at != len(b) {
		t.Errorf("%d bytes are left", len(b)-at)
	}
}

func TestGetOfWrongOnes(t *testing.T) { // P12.4: put so, but Check does not allow them
	for _, m := range wrong() {
		for _, ahead := range []string{"", "xy"} {
			// Parts that have no place in the bytes make no other ones: then it is another matcher that is got.
			if got, _, ok := match.Get(slowPut([]byte(ahead), m), len(ahead)); ok && equal(got, m) {
				t.Errorf("%+v is got", m)
			}
			gets(t, slowPut([]byte(ahead), m), len(ahead))
			gets(t, append(slowPut([]byte(ahead), m), "behind"...), len(ahead))
		}
	}
	for _, m := range []api.Matcher{
		{Op: 8}, {Op: 9}, {Op: 1 << 32}, {Op: 1 << 40}, is("", "x"), is("A", "x"), is(strings.Repeat("n", 33), "x"), is("a", strings.Repeat("v", 65)), isnt("", ""), begins("0", ""),
		among("a"), among("", "x"), among("a", "b", "a"), among("a", "a", "a"), among("a", steps(17, 1)...), among("a", strings.Repeat("v", 65)),
		and(times(64, api.Matcher{})...), or(times(65, api.Matcher{})...), or(and(times(63, api.Matcher{})...)), under(8, api.Matcher{}), under(8, and()), under(9, is("a", "x")), filled(4097), under(2, filled(4097)), and(api.Matcher{}, is("A", "")),
	} {
		refused(t, append(slowPut([]byte("x"), m), "\x00\x00\x00\x00"...), 1)
	}
	for _, m := range append(wrong(), endless()...) {
		b := match.Put([]byte("x"), m)
		if b[0] != 'x' {
			t.Fatalf("Put of one that may not be: %x", b)
		}
		refused(t, b, 1)
		refused(t, append(b, 0, 0, 0, 0), 1)
	}
}

func TestGetNone(t *testing.T) { // P12.4: numbers that are not the shortest, that are too great, lengths that are not true
	for _, b := range []string{
		"", "\x08", "\x09", "\x80", "\xff", "\x80\x00", "\x87\x00\x00", "\x81\x00\x01a\x01x", "\x80\x01", "\x80\x80\x80\x80\x10", "\x81\x80\x80\x80\x10\x01a\x01x", "\xff\xff\xff\xff\xff\xff\xff\xff\xff\x01",
		"\x01", "\x01\x01", "\x01\x01a", "\x01\x01a\x01", "\x01\x00\x01x", "\x01\x01A\x01x", "\x01\x81\x00a\x01x", "\x01\x01a\x81\x00x", "\x01\x01a\x80\x00", "\x01\x21" + strings.Repeat("n", 33) + "\x01x", "\x01\x01a\x41" + strings.Repeat("v", 65),
		"\x04", "\x04\x01a", "\x04\x01a\x00", "\x04\x01a\x01", "\x04\x01a\x02\x01x", "\x04\x01a\x02\x01x\x01x", "\x04\x01a\x02\x01y\x01x", "\x04\x01a\x81\x00\x01x", "\x04\x01a\x11" + strings.Repeat("\x01x", 17), "\x04\x01a\xff\xff\xff\xff\xff\xff\xff\xff\xff\x01\x01x", "\x04\x01a\x81\x80\x80\x80\x10\x01x",
		"\x05", "\x06", "\x05\x01", "\x06\x02\x00", "\x05\x80\x00", "\x05\x81\x00\x00", "\x05\x40" + strings.Repeat("\x00", 64), "\x05\x41" + strings.Repeat("\x00", 65), "\x05\xff\xff\xff\xff\xff\xff\xff\xff\xff\x01" + strings.Repeat("\x00", 100), "\x06\x81\x80\x80\x80\x10\x00", "\x05\x02\x00\x08",
		"\x07", "\x07\x07", "\x07\x08", "\x07\x01\x01\x00", strings.Repeat("\x07", 8) + "\x00", strings.Repeat("\x07", 8) + "\x05\x00", strings.Repeat("\x05\x01", 8) + "\x00",
	} {
		for _, ahead := range []string{"", "\x01", "abc"} {
			refused(t, []byte(ahead+b), len(ahead))
		}
	}
	for _, b := range []string{"\x05\x3f" + strings.Repeat("\x00", 63), strings.Repeat("\x07", 7) + "\x00", strings.Repeat("\x07", 7) + "\x05\x00", strings.Repeat("\x06\x01", 7) + "\x00"} {
		if !gets(t, []byte(b), 0) {
			t.Errorf("%x is just allowed", b)
		}
	}
}

func TestGetLong(t *testing.T) { // R1: it ends, and calls within one another are few, however long the bytes
	const n = 1 << 22
	for _, part := range []string{"\x07", "\x05\x01", "\x06\x01", "\x05\x3f", "\x06\x02\x00", "\x05\x40", "\x01", "\x04", "\x80", "\xff"} {
		refused(t, bytes.Repeat([]byte(part), n), 0)
	}
}

func TestGetPlaces(t *testing.T) { // P12.4: places that are none of b's, whatever stands in its spare room
	whole := slowPut(nil, and(is("a", "1"), not(among("b", "", "2"))))
	for _, b := range [][]byte{nil, {}, whole, whole[:0], whole[:2], {0}} {
		for _, at := range []int{-1, -2, math.MinInt, len(b), len(b) + 1, len(b) + 1000, math.MaxInt} {
			refused(t, b, at)
		}
	}
	for n := range whole {
		refused(t, whole[:n], 0)
		refused(t, whole[:n:n], 0)
	}
}

func TestGetCutAndTurned(t *testing.T) { // P12.4: cut at every place, from every place on, with a byte turned
	n := 0
	for _, m := range right() {
		b := match.Put([]byte("x"), m)
		if len(b) > 40 {
			continue
		}
		for at := range len(b) {
			refused(t, b[:at:at], 1)
			gets(t, b, at)
		}
		for at := 1; at < len(b); at++ {
			turned := bytes.Clone(b)
			for one := range 256 {
				turned[at] = byte(one)
				if gets(t, turned, 1) {
					n++
				}
			}
		}
	}
	if n < 1000 {
		t.Errorf("%d turned ones are got", n)
	}
}

func TestGetOfAnyBytes(t *testing.T) { // P12.4, R1: all short ones of few bytes
	const few = "\x00\x01\x02\x03\x04\x05\x06\x07\x08a\x80"
	n := 0
	var grow func(b []byte, left int)
	grow = func(b []byte, left int) {
		if gets(t, b, 0) {
			n++
		}
		for i := range len(few) {
			if left > 0 {
				grow(append(b[:len(b):len(b)], few[i]), left-1)
			}
		}
	}
	grow(nil, 5)
	if n < 1000 {
		t.Errorf("%d are got", n)
	}
}

func TestPutTurnsNoRoom(t *testing.T) { // R3: what stands behind b stays, and what is told is apart from b
	for _, m := range append(right()[:60], wrong()[:5]...) {
		for _, n := range []int{0, 1, 5} {
			room := bytes.Repeat([]byte{0xaa}, 8000)
			got := match.Put(room[:n], m)
			clear(got[:cap(got)])
			if !bytes.Equal(room, bytes.Repeat([]byte{0xaa}, 8000)) {
				t.Fatal("Put turned what it was handed")
			}
			again := match.Put(room[:n], m)
			want := bytes.Clone(again)
			clear(room)
			if !bytes.Equal(again, want) {
				t.Fatal("what Put told hangs on what it was handed")
			}
		}
	}
}

func TestGetIsNewMemory(t *testing.T) { // R3, R4
	for _, want := range right()[:150] {
		b := match.Put(nil, want)
		before := bytes.Clone(b)
		one, _, _ := match.Get(b, 0)
		two, _, _ := match.Get(b, 0)
		spoiled(one)
		if !bytes.Equal(b, before) {
			t.Fatalf("%x became %x", before, b)
		}
		clear(b)
		if !equal(two, want) {
			t.Fatalf("the answer became %+v", two)
		}
		apart(t, func() api.Matcher {
			got, _, _ := match.Get(before, 0)
			return got
		})
	}
}
