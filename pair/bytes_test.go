package pair_test

import (
	"bytes"
	"encoding/binary"
	"math"
	"slices"
	"testing"

	"varve/api"
	"varve/gauge"
	"varve/hist"
	"varve/kmv"
	"varve/pair"
)

const greatest = "\xff\xff\xff\xff\xff\xff\xff\xff\xff\x01"

// threePuts is P10.2's words.
func threePuts(b []byte, s api.Sketch) []byte {
	return slices.Concat(b, hist.Put(nil, s.Hist), kmv.Put(nil, s.Hashes), gauge.Put(nil, s.Gauge))
}

// refused checks that Get answers nothing.
func refused(t *testing.T, b []byte, at int) {
	t.Helper()
	if s, next, ok := pair.Get(b, at); !equal(s, api.Sketch{}) || next != 0 || ok {
		t.Errorf("Get(%x, %d) = %v, %d, %t", b[:min(len(b), 40)], at, brief(s), next, ok)
	}
}

// gets gets what may stand there: a sketch that Check allows, and that is put as the same bytes, or nothing.
func gets(t *testing.T, b []byte, at int) {
	t.Helper()
	s, next, ok := pair.Get(b, at)
	if !ok {
		refused(t, b, at)
		return
	}
	if !pair.Check(s) || next > len(b) || !bytes.Equal(threePuts(b[:at], s), b[:next]) {
		t.Fatalf("Get(%x, %d) = %v, %d", b, at, s, next)
	}
}

// small are sketches of few bytes.
func small() []api.Sketch {
	var out []api.Sketch
	for _, s := range right() {
		if len(s.Hashes) < 50 {
			out = append(out, s)
		}
	}
	return out
}

func TestPut(t *testing.T) { // P10.2: buckets, hashes, gauge, one behind the other
	nought := "\x00\x00\x00\x00\x00\x00\x00\x00"
	for _, x := range []struct {
		s    api.Sketch
		want string
	}{
		{api.Sketch{}, "\x00\x00" + "\x00" + "\x00\x00"},
		{api.Sketch{Hist: []api.Bucket{}, Hashes: []uint64{}}, "\x00\x00" + "\x00" + "\x00\x00"},
		{api.Sketch{Hist: []api.Bucket{{At: 100, N: 1}}}, "\x00\x01\x64\x01" + "\x00" + "\x00\x00"},
		{api.Sketch{Hist: []api.Bucket{{At: 5, N: 1}, {At: 6, N: 1}}}, "\x01\x05\x02\x01\x01" + "\x00" + "\x00\x00"},
		{api.Sketch{Hashes: []uint64{5, 6, 9}}, "\x00\x00" + "\x03\x05\x00\x02" + "\x00\x00"},
		{api.Sketch{Gauge: api.Gauge{NaNs: 300}}, "\x00\x00" + "\x00" + "\xac\x02\x00"},
		{api.Sketch{Gauge: api.Gauge{N: 2, NaNs: 1, Lo: minusZero}}, "\x00\x00" + "\x00" + "\x01\x02" + "\x00\x00\x00\x00\x00\x00\x00\x80" + nought},
		{
			api.Sketch{Hist: []api.Bucket{{At: 5, N: 1}, {At: 278, N: most}}, Hashes: []uint64{300, most}, Gauge: api.Gauge{N: 1, NaNs: most, Lo: 1, Hi: plusInf}},
			"\x00\x02\x05\x01\x90\x02" + greatest + "\x02\xac\x02\xd2\xfd\xff\xff\xff\xff\xff\xff\xff\x01" + greatest + "\x01" + "\x01\x00\x00\x00\x00\x00\x00\x00" + "\x00\x00\x00\x00\x00\x00\xf0\x7f",
		},
	} {
		if got := pair.Put(nil, x.s); string(got) != x.want {
			t.Errorf("Put of %v = %x, not %x", x.s, got, x.want)
		}
		if got := pair.Put([]byte("ahead"), x.s); string(got) != "ahead"+x.want {
			t.Errorf("Put of %v behind a text = %x", x.s, got)
		}
		if s, next, ok := pair.Get([]byte(x.want), 0); !equal(s, x.s) || next != len(x.want) || !ok {
			t.Errorf("Get(%x) = %v, %d, %t", x.want, s, next, ok)
		}
	}
}

func TestPutOfAny(t *testing.T) { // P10.2, R1: those that may not be are put part by part too
	for _, s := range append(right(), wrong()...) {
		if got, want := pair.Put([]byte("x"), s), threePuts([]byte("x"), s); !bytes.Equal(got, want) {
			t.Errorf("Put of %v = %x, not %x", brief(s), got, want)
		}
	}
}

func TestWhatWasPutIsGot(t *testing.T) { // P10.2: with bytes ahead of it and behind it
	for _, s := range right() {
		for _, ahead := range []string{"", "\x80", "abc"} {
			b := pair.Put([]byte(ahead), s)
			for _, behind := range []string{"", "\x00", "\xff\xff"} {
				got, next, ok := pair.Get(append(bytes.Clone(b), behind...), len(ahead))
				if !equal(got, s) || next != len(b) || !ok {
					t.Errorf("%v is got as %v, %d, %t", brief(s), brief(got), next, ok)
				}
			}
		}
	}
}

func TestManyInARow(t *testing.T) { // P10.2: the place behind one is the next one's
	var b []byte
	for _, s := range right() {
		b = pair.Put(b, s)
	}
	at := 0
	for _, s := range right() {
		got, next, ok := pair.Get(b, at)
		if !equal(got, s) || next != at+len(pair.Put(nil, s)) || !ok {
			t.Fatalf("at %d: %v, %d, %t, not %v", at, brief(got), next, ok, brief(s))
		}
		at = next
	}
	if at != len(b) {
		t.Error(at, len(b))
	}
}

func TestGetCut(t *testing.T) { // P10.2: at every place; what stands in spare room is none of b
	for _, s := range right() {
		b := pair.Put([]byte("x"), s)
		for n := range len(b) {
			refused(t, b[:n], 1)
			refused(t, b[:n:n], 1)
		}
	}
}

func TestGetTurned(t *testing.T) { // P10.2: each byte turned to each other one
	for _, s := range small() {
		b := append(pair.Put([]byte("x"), s), 1, 0, 7)
		for i := 1; i < min(len(b), 300); i++ {
			was := b[i]
			for v := range 256 {
				b[i] = byte(v)
				gets(t, b, 1)
				if v != int(was) && i < len(b)-3 {
					if got, next, ok := pair.Get(b, 1); ok && next == len(b)-3 && equal(got, s) {
						t.Fatalf("%x is got as %v too", b, s)
					}
				}
			}
			b[i] = was
		}
	}
}

func TestGetOfAnyBytes(t *testing.T) { // P10.2
	d := draws(23)
	for range 100000 {
		b := make([]byte, d.below(40))
		for i := range b {
			if b[i] = byte(d.next()); d.below(4) > 0 {
				b[i] %= 4
			}
		}
		gets(t, b, d.below(3))
	}
}

func TestGetOfOneWrongPart(t *testing.T) { // P10.2: each of the three in turn, the others right
	buckets, hashes, floats := []string{"\x00\x00", "\x00\x02\x05\x01\x90\x02\x01", "\x01\x05\x02\x01\x01"}, []string{"\x00", "\x03\x05\x00\x02"}, []string{"\x00\x00", "\x01\x01" + string(make([]byte, 16))}
	long := binary.AppendUvarint(nil, 1025)
	for _, x := range buckets {
		for _, y := range hashes {
			for _, z := range floats {
				if _, next, ok := pair.Get([]byte(x+y+z), 0); next != len(x+y+z) || !ok {
					t.Errorf("%x is not got", x+y+z)
				}
				for _, bad := range []string{
					"\x02\x00", "\x80\x00", "\x00\x01\x05\x00", "\x00\x01\x80\x3a\x01", "\x00\x02\x05\x01\x00\x01", "\x01\x05\x01\x01", "\x01\x05\x00", "\x01\xff\x39\x02\x01\x01", "\x00" + greatest,
				} {
					refused(t, []byte(bad+y+z), 0)
					refused(t, []byte("x"+bad+y+z), 1)
				}
				for _, bad := range []string{"\x80\x00", "\x82\x00\x05\x06", "\x02\x05\x80\x00", "\x02" + greatest + "\x00", "\x02\x05" + greatest, greatest, string(long) + string(make([]byte, 1025))} {
					refused(t, []byte(x+bad+z), 0)
					refused(t, []byte("x"+x+bad+z), 1)
				}
				for _, g := range []api.Gauge{{N: 1, Lo: quietNaN, Hi: quietNaN}, {N: 1, Lo: 1, Hi: quietNaN}, {N: 1, Lo: 2, Hi: 1}, {N: 2, Lo: 0, Hi: minusZero}} {
					refused(t, gauge.Put([]byte(x+y), g), 0)
					refused(t, gauge.Put([]byte("x"+x+y), g), 1)
				}
				for _, bad := range []string{"", "\x00", "\x80\x00\x00", "\x00\x80\x00", "\x00\x01" + string(make([]byte, 15))} {
					refused(t, []byte(x+y+bad), 0)
					refused(t, []byte("x"+x+y+bad), 1)
				}
			}
		}
	}
}

func TestGetOfPartsInAnotherOrder(t *testing.T) { // P10.2: buckets are first, then hashes, then the gauge
	s := api.Sketch{Hist: []api.Bucket{{At: 5, N: 1}, {At: 278, N: 1}}, Hashes: []uint64{1, 2, 3, 4}, Gauge: api.Gauge{N: 1, NaNs: 2, Lo: 1, Hi: 1}}
	x, y, z := hist.Put(nil, s.Hist), kmv.Put(nil, s.Hashes), gauge.Put(nil, s.Gauge)
	for i, b := range [][]byte{slices.Concat(x, z, y), slices.Concat(y, x, z), slices.Concat(y, z, x), slices.Concat(z, x, y), slices.Concat(z, y, x)} {
		if got, _, ok := pair.Get(b, 0); ok && equal(got, s) {
			t.Errorf("order %d is got", i)
		}
	}
}

func TestGetAtPlaces(t *testing.T) { // P10.2: below 0, at the end of b, behind it
	one, two := api.Sketch{Hist: []api.Bucket{{At: 5, N: 1}}, Hashes: []uint64{7}, Gauge: api.Gauge{N: 1, Lo: 3, Hi: 3}}, api.Sketch{Gauge: api.Gauge{NaNs: 300}}
	first := pair.Put(nil, one)
	whole := pair.Put(first, two)
	for _, at := range []int{-1, -2, math.MinInt, len(whole), len(whole) + 1, math.MaxInt} {
		refused(t, whole, at)
		refused(t, nil, at)
	}
	refused(t, nil, 0)
	refused(t, []byte{}, 0)
	refused(t, whole[:len(first)], len(first))
	if s, next, ok := pair.Get(whole, len(first)); !equal(s, two) || next != len(whole) || !ok {
		t.Error(s, next, ok)
	}
	for at := range whole {
		gets(t, whole, at)
	}
}

func TestRoomIsLeft(t *testing.T) { // P10.2, R3: b with spare room behind it; what is put lies in new memory
	for _, s := range append(right(), wrong()...) {
		for _, size := range []int{0, 1, 7} {
			for _, spare := range []int{0, 1, 5, 20000} {
				whole := bytes.Repeat([]byte{0xaa}, size+spare)
				first, second := pair.Put(whole[:size], s), pair.Put(whole[:size], s)
				for i := range first[:cap(first)] {
					first[:cap(first)][i] = 0x55
				}
				if !bytes.Equal(whole, bytes.Repeat([]byte{0xaa}, size+spare)) || !bytes.Equal(second, threePuts(whole[:size], s)) {
					t.Fatalf("Put of %v behind %d bytes with room for %d shares memory", brief(s), size, spare)
				}
			}
		}
	}
}

func TestGotIsApart(t *testing.T) { // R3: from b, and from what was got before; b stays as it was
	for _, s := range right() {
		b := pair.Put([]byte("x"), s)
		was := bytes.Clone(b)
		one, _, _ := pair.Get(b, 1)
		two, _, _ := pair.Get(b, 1)
		pair.Get(b[:len(b)-1], 1)
		if !bytes.Equal(b, was) {
			t.Errorf("%x was turned to %x", was, b)
		}
		spoil(one)
		clear(b)
		if !equal(two, s) {
			t.Errorf("%v, not %v", brief(two), brief(s))
		}
	}
}
