package kmv_test

import (
	"bytes"
	"encoding/binary"
	"math"
	"slices"
	"testing"

	"varve/api"
	"varve/kmv"
)

const greatest = "\xff\xff\xff\xff\xff\xff\xff\xff\xff\x01"

// slowPut is the words of vint's PutRise.
func slowPut(b []byte, l []uint64) []byte {
	out := binary.AppendUvarint(bytes.Clone(b), uint64(len(l)))
	for i, h := range l {
		if i > 0 {
			h -= l[i-1] + 1
		}
		out = binary.AppendUvarint(out, h)
	}
	return out
}

func refused(t *testing.T, b []byte, at int) {
	t.Helper()
	if l, next, ok := kmv.Get(b, at); len(l) != 0 || next != 0 || ok {
		t.Errorf("Get(%x, %d) = %d.., %d, %t", b[:min(len(b), 20)], at, l[:min(len(l), 3)], next, ok)
	}
}

// gets gets what may stand there: a list that Check allows, and that is put as the same bytes, or nothing.
func gets(t *testing.T, b []byte, at int) {
	t.Helper()
	l, next, ok := kmv.Get(b, at)
	if !ok {
		refused(t, b, at)
		return
	}
	if !kmv.Check(l) || next > len(b) || !bytes.Equal(slowPut(b[:at], l), b[:next]) {
		t.Fatalf("Get(%x, %d) = %d, %d", b, at, l, next)
	}
}

func TestPut(t *testing.T) { // P8.3: none, one, more
	for _, x := range []struct {
		l    []uint64
		want string
	}{
		{nil, "\x00"},
		{[]uint64{}, "\x00"},
		{[]uint64{0}, "\x01\x00"},
		{[]uint64{300}, "\x01\xac\x02"},
		{[]uint64{api.Most}, "\x01" + greatest},
		{[]uint64{5, 6, 9}, "\x03\x05\x00\x02"},
		{list(1024, 0, 1), "\x80\x08" + string(make([]byte, 1024))},
	} {
		if got := kmv.Put(nil, x.l); string(got) != x.want {
			t.Errorf("Put of %d hashes = %x", len(x.l), got)
		}
		if got := kmv.Put([]byte("ahead"), x.l); string(got) != "ahead"+x.want {
			t.Errorf("Put of %d hashes behind a text = %x", len(x.l), got)
		}
	}
}

func TestPutOfAny(t *testing.T) { // P8.3: lists that Check does not allow are put as vint puts them
	for _, l := range append(right(), wrong()...) {
		if got, want := kmv.Put([]byte("x"), l), slowPut([]byte("x"), l); !bytes.Equal(got, want) {
			t.Errorf("Put of %d hashes = %x, not %x", len(l), got, want)
		}
	}
}

func TestWhatWasPutIsGot(t *testing.T) { // P8.3: with bytes ahead of it and behind it
	for _, l := range right() {
		for _, ahead := range []string{"", "\x80", "abc"} {
			b := kmv.Put([]byte(ahead), l)
			for _, behind := range []string{"", "\x00", "\xff\xff"} {
				got, next, ok := kmv.Get(append(bytes.Clone(b), behind...), len(ahead))
				if !slices.Equal(got, l) || next != len(b) || !ok {
					t.Errorf("%d hashes are got as %d, %d, %t", len(l), len(got), next, ok)
				}
			}
		}
	}
}

func TestWrongListsAreNotGot(t *testing.T) { // P8.3: more than 1024, or not rising
	for _, l := range wrong() {
		refused(t, kmv.Put(nil, l), 0)
		refused(t, kmv.Put([]byte("x"), l), 1)
	}
	for _, n := range []int{1025, 1026, 2048, 4000} {
		refused(t, kmv.Put(nil, list(n, 0, 1)), 0)
		refused(t, kmv.Put(nil, list(n, 5, 1<<40)), 0)
	}
}

func TestGetCut(t *testing.T) { // P8.3: at every place; what stands in spare room is none of b
	for _, l := range [][]uint64{nil, {0}, {300}, {api.Most}, {5, 6, 9}, {0, api.Most}, list(130, 0, 1), list(1023, 1, 1<<50), list(1024, 1, 1<<50), list(1024, 0, 1)} {
		b := kmv.Put([]byte("x"), l)
		for cut := 1; cut < len(b); cut++ {
			refused(t, b[:cut], 1)
			refused(t, b[:cut:cut], 1)
		}
	}
}

func TestGetTurned(t *testing.T) { // P8.3: each byte turned to each other one
	d := draws(31)
	for _, l := range [][]uint64{nil, {0}, {300}, {api.Most}, {5, 6, 9}, {0, api.Most}, {api.Most - 2, api.Most - 1, api.Most}, list(20, 9, 1<<33), least(d.hashes(9, api.Most))} {
		b := append(kmv.Put([]byte("x"), l), 1, 0, 7)
		for i := 1; i < len(b); i++ {
			was := b[i]
			for v := range 256 {
				b[i] = byte(v)
				gets(t, b, 1)
				if v != int(was) && i < len(b)-3 {
					if got, next, ok := kmv.Get(b, 1); ok && next == len(b)-3 && slices.Equal(got, l) {
						t.Fatalf("%x is got as %d too", b, l)
					}
				}
			}
			b[i] = was
		}
	}
}

func TestGetOfAnyBytes(t *testing.T) { // P8.3
	d := draws(23)
	for range 50000 {
		b := make([]byte, d.below(40))
		for i := range b {
			if b[i] = byte(d.next()); d.below(3) > 0 {
				b[i] %= 8
			}
		}
		gets(t, b, d.below(3))
	}
	for _, b := range []string{
		"", "\x01", "\x02\x05", "\x80", "\x80\x00", "\x81\x00\x05", "\x01\x80\x00", "\x02\x05\x80\x00", greatest, greatest + "\x00\x00", "\x80\x80\x80\x80\x10\x00",
		"\x02" + greatest + "\x00", "\x02\x00" + greatest, "\x02\x05\xfa\xff\xff\xff\xff\xff\xff\xff\xff\x01", "\x03\x00\xfe\xff\xff\xff\xff\xff\xff\xff\xff\x01\x00",
	} {
		refused(t, []byte(b), 0)
		refused(t, []byte("x"+b), 1)
	}
}

func TestGetAtPlaces(t *testing.T) { // P8.3: below 0, at the end of b, behind it
	whole := kmv.Put(kmv.Put(nil, []uint64{5, 6, 9}), []uint64{300})
	for _, at := range []int{-1, -2, math.MinInt, len(whole), len(whole) + 1, math.MaxInt} {
		refused(t, whole, at)
		refused(t, nil, at)
	}
	refused(t, nil, 0)
	refused(t, []byte{}, 0)
	refused(t, whole[:4], 4)
	if l, next, ok := kmv.Get(whole, 0); !slices.Equal(l, []uint64{5, 6, 9}) || next != 4 || !ok {
		t.Error(l, next, ok)
	}
	if l, next, ok := kmv.Get(whole, 4); !slices.Equal(l, []uint64{300}) || next != len(whole) || !ok {
		t.Error(l, next, ok)
	}
	for at := range whole {
		gets(t, whole, at)
	}
}

func TestRoomIsLeft(t *testing.T) { // P8.3, R3: b with spare room behind it; what is put lies in new memory
	for _, l := range [][]uint64{nil, {3}, {3, 200, api.Most}, list(1024, 0, 1)} {
		for _, size := range []int{0, 1, 7} {
			for _, spare := range []int{0, 1, 5, 3000} {
				whole := bytes.Repeat([]byte{0xaa}, size+spare)
				first, second := kmv.Put(whole[:size], l), kmv.Put(whole[:size], l)
				for i := range first[:cap(first)] {
					first[:cap(first)][i] = 0x55
				}
				if !bytes.Equal(whole, bytes.Repeat([]byte{0xaa}, size+spare)) || !bytes.Equal(second, slowPut(whole[:size], l)) {
					t.Fatalf("Put of %d hashes behind %d bytes with room for %d shares memory", len(l), size, spare)
				}
			}
		}
	}
}

func TestGotIsApart(t *testing.T) { // R3
	b := kmv.Put(nil, []uint64{1, 5, 9})
	one, _, _ := kmv.Get(b, 0)
	two, _, _ := kmv.Get(b, 0)
	clear(one[:cap(one)])
	clear(b)
	if !slices.Equal(two, []uint64{1, 5, 9}) {
		t.Error(two)
	}
}
