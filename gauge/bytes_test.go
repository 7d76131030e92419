package gauge_test

import (
	"bytes"
	"encoding/binary"
	"math"
	"testing"

	"varve/api"
	"varve/gauge"
)

const greatest = "\xff\xff\xff\xff\xff\xff\xff\xff\xff\x01"

// slowPut is P9.3's words.
func slowPut(b []byte, g api.Gauge) []byte {
	out := binary.AppendUvarint(bytes.Clone(b), g.NaNs)
	out = binary.AppendUvarint(out, g.N)
	if g.N > 0 {
		out = binary.LittleEndian.AppendUint64(out, g.Lo)
		out = binary.LittleEndian.AppendUint64(out, g.Hi)
	}
	return out
}

func refused(t *testing.T, b []byte, at int) {
	t.Helper()
	if g, next, ok := gauge.Get(b, at); g != (api.Gauge{}) || next != 0 || ok {
		t.Errorf("Get(%x, %d) = %x, %d, %t", b, at, g, next, ok)
	}
}

// gets gets what may stand there: a gauge that Check allows, and that is put as the same bytes, or nothing.
func gets(t *testing.T, b []byte, at int) {
	t.Helper()
	g, next, ok := gauge.Get(b, at)
	if !ok {
		refused(t, b, at)
		return
	}
	if !gauge.Check(g) || next > len(b) || !bytes.Equal(slowPut(b[:at], g), b[:next]) {
		t.Fatalf("Get(%x, %d) = %x, %d", b, at, g, next)
	}
}

func TestPut(t *testing.T) { // P9.3: NaNs, N; of N 0 nothing follows; else the ends, the lowest byte first
	for _, x := range []struct {
		g    api.Gauge
		want string
	}{
		{api.Gauge{}, "\x00\x00"},
		{api.Gauge{NaNs: 300}, "\xac\x02\x00"},
		{api.Gauge{NaNs: most}, greatest + "\x00"},
		{api.Gauge{N: 1}, "\x00\x01" + "\x00\x00\x00\x00\x00\x00\x00\x00" + "\x00\x00\x00\x00\x00\x00\x00\x00"},
		{api.Gauge{N: 2, NaNs: 1, Lo: minusZero}, "\x01\x02" + "\x00\x00\x00\x00\x00\x00\x00\x80" + "\x00\x00\x00\x00\x00\x00\x00\x00"},
		{api.Gauge{N: 300, Lo: 0x0102030405060708, Hi: 0x1112131415161718}, "\x00\xac\x02" + "\x08\x07\x06\x05\x04\x03\x02\x01" + "\x18\x17\x16\x15\x14\x13\x12\x11"},
		{api.Gauge{N: most, NaNs: 7, Lo: minusInf, Hi: plusInf}, "\x07" + greatest + "\x00\x00\x00\x00\x00\x00\xf0\xff" + "\x00\x00\x00\x00\x00\x00\xf0\x7f"},
	} {
		if got := gauge.Put(nil, x.g); string(got) != x.want {
			t.Errorf("Put of %x = %x", x.g, got)
		}
		if got := gauge.Put([]byte("ahead"), x.g); string(got) != "ahead"+x.want {
			t.Errorf("Put of %x behind a text = %x", x.g, got)
		}
	}
}

func TestPutOfAny(t *testing.T) { // P9.3: gauges that Check does not allow are put by the same words
	for _, g := range append(right(), wrong()...) {
		if got, want := gauge.Put([]byte("x"), g), slowPut([]byte("x"), g); !bytes.Equal(got, want) {
			t.Errorf("Put of %x = %x, not %x", g, got, want)
		}
	}
}

func TestWhatWasPutIsGot(t *testing.T) { // P9.3: with bytes ahead of it and behind it
	for _, g := range right() {
		for _, ahead := range []string{"", "\x80", "abc"} {
			b := gauge.Put([]byte(ahead), g)
			for _, behind := range []string{"", "\x00", "\xff\xff"} {
				got, next, ok := gauge.Get(append(bytes.Clone(b), behind...), len(ahead))
				if got != g || next != len(b) || !ok {
					t.Errorf("%x is got as %x, %d, %t", g, got, next, ok)
				}
			}
		}
	}
}

func TestWrongGaugesAreNotGot(t *testing.T) { // P9.3: what Check does not allow
	for _, g := range wrong() {
		// Of N 0 the ends are not put: there is nothing wrong in the bytes.
		if g.N > 0 {
			refused(t, gauge.Put(nil, g), 0)
			refused(t, append(gauge.Put([]byte("x"), g), 0, 0), 1)
		}
	}
}

func TestGetCut(t *testing.T) { // P9.3: at every place; what stands in spare room is none of b
	for _, g := range right() {
		b := gauge.Put([]byte("x"), g)
		for cut := 1; cut < len(b); cut++ {
			refused(t, b[:cut], 1)
			refused(t, b[:cut:cut], 1)
		}
	}
}

func TestGetTurned(t *testing.T) { // P9.3: each byte turned to each other one
	for _, g := range []api.Gauge{
		{}, {NaNs: 5}, {NaNs: most}, {N: 1}, {N: 2, Lo: minusZero}, {N: most, NaNs: 300, Lo: minusInf, Hi: plusInf}, {N: 300, Lo: plusInf, Hi: plusInf},
		{N: 3, NaNs: 1, Lo: 1, Hi: 0x7fefffffffffffff}, {N: 3, Lo: 0x3ff0000000000000, Hi: 0x3ff0000000000001},
	} {
		b := append(gauge.Put([]byte("x"), g), 1, 0, 7)
		for i := 1; i < len(b); i++ {
			was := b[i]
			for v := range 256 {
				b[i] = byte(v)
				gets(t, b, 1)
				if v != int(was) && i < len(b)-3 {
					if got, next, ok := gauge.Get(b, 1); ok && next == len(b)-3 && got == g {
						t.Fatalf("%x is got as %x too", b, g)
					}
				}
			}
			b[i] = was
		}
	}
}

func TestGetOfAnyBytes(t *testing.T) { // P9.3
	d := draws(23)
	for range 100000 {
		b := make([]byte, d.below(30))
		for i := range b {
			if b[i] = byte(d.next()); d.below(3) > 0 {
				b[i] %= 4
			}
		}
		gets(t, b, d.below(3))
	}
	for _, b := range []string{
		"", "\x00", "\x80", "\x80\x00", "\x80\x00\x00", "\x00\x80", "\x00\x80\x00", "\x00\x81\x00" + string(make([]byte, 16)), greatest, "\x00" + greatest,
		"\x00\x01", "\x00\x01" + string(make([]byte, 15)), "\xff\xff\xff\xff\xff\xff\xff\xff\xff\x02\x00", "\x00\xff\xff\xff\xff\xff\xff\xff\xff\xff\x02" + string(make([]byte, 16)),
	} {
		refused(t, []byte(b), 0)
		refused(t, []byte("x"+b), 1)
	}
}

func TestGetAtPlaces(t *testing.T) { // P9.3: below 0, at the end of b, behind it
	one, two := api.Gauge{N: 2, NaNs: 1, Lo: minusZero}, api.Gauge{NaNs: 300}
	whole := gauge.Put(gauge.Put(nil, one), two)
	for _, at := range []int{-1, -2, math.MinInt, len(whole), len(whole) + 1, math.MaxInt} {
		refused(t, whole, at)
		refused(t, nil, at)
	}
	refused(t, nil, 0)
	refused(t, []byte{}, 0)
	refused(t, whole[:18], 18)
	if g, next, ok := gauge.Get(whole, 0); g != one || next != 18 || !ok {
		t.Error(g, next, ok)
	}
	if g, next, ok := gauge.Get(whole, 18); g != two || next != len(whole) || !ok {
		t.Error(g, next, ok)
	}
	for at := range whole {
		gets(t, whole, at)
	}
}

func TestRoomIsLeft(t *testing.T) { // P9.3, R3: b with spare room behind it; what is put lies in new memory
	for _, g := range []api.Gauge{{}, {NaNs: most}, {N: 1, Lo: 5, Hi: 6}, {N: most, NaNs: most, Lo: minusInf, Hi: plusInf}} {
		for _, size := range []int{0, 1, 7} {
			for _, spare := range []int{0, 1, 5, 100} {
				whole := bytes.Repeat([]byte{0xaa}, size+spare)
				first, second := gauge.Put(whole[:size], g), gauge.Put(whole[:size], g)
				for i := range first[:cap(first)] {
					first[:cap(first)][i] = 0x55
				}
				if !bytes.Equal(whole, bytes.Repeat([]byte{0xaa}, size+spare)) || !bytes.Equal(second, slowPut(whole[:size], g)) {
					t.Fatalf("Put of %x behind %d bytes with room for %d shares memory", g, size, spare)
				}
			}
		}
	}
}

func TestBytesAreLeft(t *testing.T) { // R3: Get turns nothing
	for _, g := range right()[:40] {
		b := gauge.Put([]byte("x"), g)
		was := bytes.Clone(b)
		gauge.Get(b, 1)
		gauge.Get(b[:len(b)-1], 1)
		if !bytes.Equal(b, was) {
			t.Errorf("%x was turned to %x", was, b)
		}
	}
}
