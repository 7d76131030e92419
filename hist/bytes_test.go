package hist_test

import (
	"bytes"
	"encoding/binary"
	"math"
	"slices"
	"testing"

	"varve/api"
	"varve/hist"
)

// slowSparse is P7.5's first form by its words.
func slowSparse(l []api.Bucket) []byte {
	out := binary.AppendUvarint([]byte{0}, uint64(len(l)))
	for i, one := range l {
		if i == 0 {
			out = binary.AppendUvarint(out, uint64(one.At))
		} else {
			out = binary.AppendUvarint(out, uint64(one.At-l[i-1].At-1))
		}
		out = binary.AppendUvarint(out, one.N)
	}
	return out
}

// slowDense is the second one, of a list with something in it.
func slowDense(l []api.Bucket) []byte {
	first, last := l[0].At, l[len(l)-1].At
	out := binary.AppendUvarint([]byte{1}, uint64(first))
	return append(out, row(l, first, last-first+1)...)
}

// row is how many, then the N of so many buckets from the first on.
func row(l []api.Bucket, first, many int) []byte {
	n := make([]uint64, many)
	for _, one := range l {
		n[one.At-first] = one.N
	}
	out := binary.AppendUvarint(nil, uint64(many))
	for _, one := range n {
		out = binary.AppendUvarint(out, one)
	}
	return out
}

// slowPut is the one of both that Put takes.
func slowPut(l []api.Bucket) []byte {
	few := slowSparse(l)
	if len(l) > 0 {
		if many := slowDense(l); len(many) < len(few) {
			return many
		}
	}
	return few
}

// slowRead is what either form says at a place, with no look at whether it may be.
func slowRead(b []byte, at int) []api.Bucket {
	var l []api.Bucket
	var n []uint64
	for at >= 0 && at < len(b) && len(n) < 20000 {
		v, size := binary.Uvarint(b[at:])
		if size <= 0 {
			break
		}
		n, at = append(n, v), at+size
	}
	switch {
	case len(n) < 2:
	case n[0] == 0:
		place := -1
		for i := uint64(0); i < n[1] && 2*i+3 < uint64(len(n)); i++ {
			place += int(n[2*i+2]) + 1
			l = append(l, api.Bucket{At: place, N: n[2*i+3]})
		}
	case n[0] == 1 && len(n) > 2:
		for i := uint64(0); i < n[2] && i+3 < uint64(len(n)); i++ {
			if n[i+3] > 0 {
				l = append(l, api.Bucket{At: int(n[1] + i), N: n[i+3]})
			}
		}
	}
	return l
}

// slowGet is P7.5's words: what stands at a place is what Put puts of buckets that may be, byte by byte.
func slowGet(b []byte, at int) ([]api.Bucket, int, bool) {
	l := slowRead(b, at)
	if at < 0 || at > len(b) || !hist.Check(l) {
		return nil, 0, false
	}
	want := slowPut(l)
	if !bytes.HasPrefix(b[at:], want) {
		return nil, 0, false
	}
	return l, at + len(want), true
}

// gets checks that Get answers what the words say.
func gets(t *testing.T, b []byte, at int) {
	t.Helper()
	l, next, ok := slowGet(b, at)
	got, end, is := hist.Get(b, at)
	if !slices.Equal(got, l) || end != next || is != ok {
		t.Errorf("Get(%x, %d) = %v, %d, %t, not %v, %d, %t", b, at, got, end, is, l, next, ok)
	}
}

// refused checks that Get answers nothing.
func refused(t *testing.T, b []byte, at int) {
	t.Helper()
	if l, next, ok := hist.Get(b, at); len(l) != 0 || next != 0 || ok {
		t.Errorf("Get(%x, %d) = %v, %d, %t", b, at, l, next, ok)
	}
}

// ones are n buckets in a row, each seen once.
func ones(first, n int) []api.Bucket {
	var l []api.Bucket
	for i := range n {
		l = append(l, api.Bucket{At: first + i, N: 1})
	}
	return l
}

// even are lists that take as many bytes in both forms.
func even() [][]api.Bucket {
	return [][]api.Bucket{
		{{At: 5, N: 1}},
		{{At: 0, N: api.Most}},
		{{At: 7423, N: 1}},
		{{At: 5, N: 1}, {At: 7, N: 1}},
		{{At: 300, N: 200}, {At: 302, N: api.Most}},
		{{At: 5, N: 1}, {At: 6, N: 1}, {At: 9, N: 1}},
		{{At: 5, N: 1}, {At: 7, N: 1}, {At: 9, N: 1}},
	}
}

func TestPutForms(t *testing.T) { // P7.5: none, one, few far apart, many close
	for _, x := range []struct {
		l    []api.Bucket
		want string
	}{
		{nil, "\x00\x00"},
		{ones(0, 1), "\x00\x01\x00\x01"},
		{ones(100, 1), "\x00\x01\x64\x01"},
		{ones(7423, 1), "\x00\x01\xff\x39\x01"},
		{[]api.Bucket{{At: 5, N: 1}, {At: 278, N: 200}}, "\x00\x02\x05\x01\x90\x02\xc8\x01"},
		{[]api.Bucket{{At: 0, N: api.Most}, {At: 7423, N: 1}}, "\x00\x02\x00\xff\xff\xff\xff\xff\xff\xff\xff\xff\x01\xfe\x39\x01"},
		{[]api.Bucket{{At: 5, N: 1}, {At: 7, N: 2}}, "\x00\x02\x05\x01\x01\x02"},
		{ones(5, 2), "\x01\x05\x02\x01\x01"},
		{ones(5, 3), "\x01\x05\x03\x01\x01\x01"},
		{ones(7422, 2), "\x01\xfe\x39\x02\x01\x01"},
		{[]api.Bucket{{At: 5, N: 300}, {At: 6, N: 2}, {At: 8, N: 3}}, "\x01\x05\x04\xac\x02\x02\x00\x03"},
	} {
		if got := hist.Put(nil, x.l); string(got) != x.want {
			t.Errorf("Put(%v) = %x, not %x", x.l, got, x.want)
		}
		if got := hist.Put([]byte("ab"), x.l); string(got) != "ab"+x.want {
			t.Errorf("Put(ab, %v) = %x, not ab and %x", x.l, got, x.want)
		}
		if l, next, ok := hist.Get([]byte(x.want), 0); !slices.Equal(l, x.l) || next != len(x.want) || !ok {
			t.Errorf("Get(%x) = %v, %d, %t", x.want, l, next, ok)
		}
	}
}

func TestPutOfAsManyBytes(t *testing.T) { // P7.5: sparse, if both forms have as many
	for _, l := range even() {
		few, many := slowSparse(l), slowDense(l)
		if len(few) != len(many) {
			t.Fatalf("%v: %x, %x", l, few, many)
		}
		if got := hist.Put(nil, l); !bytes.Equal(got, few) {
			t.Errorf("Put(%v) = %x, not %x", l, got, few)
		}
		refused(t, many, 0)
	}
}

func TestPutIsGot(t *testing.T) { // P7.5: wherever it stands, by the chapter's words
	for _, l := range append(right(), even()...) {
		want := slowPut(l)
		for _, ahead := range []string{"", "\x00", "\x01\x80", "abc"} {
			for _, behind := range []string{"", "\x00", "\x80", "\x01\x01"} {
				b := hist.Put([]byte(ahead), l)
				if string(b) != ahead+string(want) {
					t.Fatalf("Put(%q, %v) = %x, not %x", ahead, l, b, want)
				}
				b = append(b, behind...)
				got, next, ok := hist.Get(b, len(ahead))
				if !slices.Equal(got, l) || next != len(ahead)+len(want) || !ok {
					t.Fatalf("Get(%x, %d) = %v, %d, %t, not %v", b, len(ahead), got, next, ok, l)
				}
			}
		}
	}
}

func TestFormsAtTheirBorder(t *testing.T) { // P7.5: where the numbers of buckets, holes and the span have one byte more
	for _, n := range []int{2, 3, 10, 63, 64, 65, 126, 127, 128, 129, 130, 200, 16383} {
		for hole := range 300 {
			n := min(n, api.Buckets-hole)
			l := slices.Concat(ones(0, n/2), ones(n/2+hole, n-n/2))
			few, many := slowSparse(l), slowDense(l)
			want, other := few, many
			if len(many) < len(few) {
				want, other = many, few
			}
			if got := hist.Put(nil, l); !bytes.Equal(got, want) {
				t.Fatalf("%d with %d between: Put takes %d bytes, not %d", n, hole, len(got), len(want))
			}
			if got, next, ok := hist.Get(want, 0); !slices.Equal(got, l) || next != len(want) || !ok {
				t.Fatalf("%d with %d between: it is not got", n, hole)
			}
			refused(t, other, 0)
		}
	}
}

func TestOtherForm(t *testing.T) { // P7.5: the one that Put would not have taken
	for _, l := range append(right(), even()...) {
		if len(l) == 0 {
			continue
		}
		for _, b := range [][]byte{slowSparse(l), slowDense(l)} {
			if bytes.Equal(b, slowPut(l)) {
				continue
			}
			refused(t, b, 0)
			refused(t, append([]byte("x"), b...), 1)
		}
	}
}

func TestPutLeavesB(t *testing.T) { // P7.5, R3: spare room included; the answer is new memory
	for _, l := range [][]api.Bucket{nil, ones(5, 1), ones(5, 20), {{At: 0, N: 1}, {At: 7423, N: 1}}, {{At: -1, N: 1}}} {
		whole := []byte("ahead and much spare room behind it")
		was := slices.Clone(whole)
		a := hist.Put(whole[:5], l)
		b := hist.Put(whole[:5], ones(1, 3))
		if !bytes.Equal(whole, was) {
			t.Errorf("%q, not %q", whole, was)
		}
		if !bytes.Equal(a, hist.Put([]byte("ahead"), l)) || !bytes.Equal(b, hist.Put([]byte("ahead"), ones(1, 3))) {
			t.Errorf("%x and %x share memory", a, b)
		}
		a = append(a, "more"...)
		clear(a[:cap(a)])
		if !bytes.Equal(whole, was) {
			t.Errorf("the answer shares memory with b: %q", whole)
		}
	}
}

func TestPutAndGetLeaveTheirLists(t *testing.T) { // R3
	l, whole := room(ones(9, 4))
	was := slices.Clone(whole)
	b := hist.Put(nil, l)
	if !slices.Equal(whole, was) {
		t.Errorf("%v, not %v", whole, was)
	}
	bytesWere := slices.Clone(b)
	got, _, _ := hist.Get(b, 0)
	again, _, _ := hist.Get(b, 0)
	clear(got[:cap(got)])
	if !bytes.Equal(b, bytesWere) || !slices.Equal(again, l) {
		t.Error(b, again)
	}
}

func TestPutOfWrongLists(t *testing.T) { // P7.5, R1: it ends, and leaves what stands ahead
	long := append(ones(0, api.Buckets), ones(0, api.Buckets)...)
	for _, l := range append(wrong(), long) {
		b := hist.Put([]byte("ahead"), l)
		if !bytes.HasPrefix(b, []byte("ahead")) {
			t.Errorf("Put(ahead, %v) = %x", l, b)
		}
		refused(t, b, 5)
	}
}

func TestGetCut(t *testing.T) { // P7.5: at every place
	for _, l := range append(right(), even()...) {
		b := hist.Put([]byte("x"), l)
		step := 1 + len(b)/500
		for n := 0; n < len(b); n += step {
			refused(t, b[:n], 1)
			refused(t, slices.Clone(b[:n]), 1)
		}
		refused(t, b[:len(b)-1], 1)
	}
}

func TestGetTurned(t *testing.T) { // P7.5: each byte to each other one
	for _, l := range [][]api.Bucket{
		nil, ones(5, 1), ones(5, 2), ones(5, 3), ones(200, 4), ones(0, 130), ones(7420, 4),
		{{At: 5, N: 1}, {At: 278, N: 200}},
		{{At: 5, N: 300}, {At: 6, N: 2}, {At: 8, N: 3}},
		{{At: 0, N: api.Most}, {At: 7423, N: 1}},
		{{At: 0, N: api.Most}, {At: 1, N: api.Most}, {At: 2, N: api.Most}},
		{{At: 0, N: 1}, {At: 1, N: 5}, {At: 3, N: 1}, {At: 4, N: 128}, {At: 8, N: 1}},
	} {
		b := hist.Put([]byte("x"), l)
		for i := 1; i < len(b); i++ {
			was := b[i]
			for v := range 256 {
				b[i] = byte(v)
				gets(t, b, 1)
			}
			b[i] = was
		}
	}
}

func TestGetOfAnyBytes(t *testing.T) { // P7.5: short ones, all of them
	for a := range 3 {
		for b := range 256 {
			for c := range 256 {
				gets(t, []byte{byte(a), byte(b), byte(c)}, 0)
			}
		}
	}
	few := []byte{0, 1, 2, 3, 0x7f, 0x80, 0xff}
	b := make([]byte, 6)
	for i := range 7 * 7 * 7 * 7 * 7 * 7 {
		for j := range b {
			b[j], i = few[i%7], i/7
		}
		gets(t, b, 0)
	}
}

func TestGetOfDrawnBytes(t *testing.T) { // P7.5: longer ones
	d := draws(21)
	for range 50000 {
		b := make([]byte, d.below(40))
		for i := range b {
			if b[i] = byte(d.next()); d.below(3) > 0 {
				b[i] %= 8
			}
		}
		gets(t, b, d.below(3))
	}
}

func TestGetNone(t *testing.T) { // P7.5: buckets that may not be, forms that are none
	greatest := "\xff\xff\xff\xff\xff\xff\xff\xff\xff\x01"
	for _, b := range []string{
		"", "\x00", "\x01", "\x02", "\x02\x00", "\x03\x05\x02\x01\x01", "\x80", "\x80\x00\x00", "\x81\x00\x05\x02\x01\x01", "\xff", greatest + "\x00",
		"\x00\x01\x05\x00", "\x00\x02\x05\x01\x90\x02\x00", "\x00\x02\x05\x00\x90\x02\x01",
		"\x00\x01\x80\x3a\x01", "\x00\x01\x81\x3a\x01", "\x00\x02\x05\x01\xfa\x39\x01", "\x00\x02\x05\x01\xff\x3a\x01", "\x00\x02\xff\x39\x01\x00\x01", "\x00\x02\xff\x39\x01\x80\x3a\x01",
		"\x00\x01" + greatest + "\x01", "\x00\x02\x05\x01" + greatest + "\x01", "\x00\x02\x05\x01\xff\xff\xff\xff\xff\xff\xff\xff\x7f\x01",
		"\x00" + greatest, "\x00" + greatest + "\x05\x01", "\x00\x81\x3a\x05\x01", "\x00\x80\x00", "\x00\x01\x85\x00\x01", "\x00\x01\x05\x81\x00",
		"\x01\x05\x00", "\x01\x00\x00", "\x01\x05\x01\x00", "\x01\x05\x03\x00\x00\x00", "\x01\x80\x3a\x00",
		"\x01\x05\x04\x00\x01\x01\x01", "\x01\x05\x04\x01\x01\x01\x00", "\x01\x05\x05\x00\x01\x01\x01\x00",
		"\x01\xff\x39\x02\x01\x01", "\x01\x80\x3a\x02\x01\x01", "\x01\xfe\x39\x03\x01\x01\x01", "\x01" + greatest + "\x02\x01\x01", "\x01\x05" + greatest + "\x01\x01",
		"\x01\x05\x02\x01", "\x01\x05\x02\x01\x80", "\x01\x05\x02\x81\x00\x01", "\x01\x05\x82\x00\x01\x01", "\x01\x85\x00\x02\x01\x01",
	} {
		refused(t, []byte(b), 0)
		refused(t, []byte("x"+b), 1)
	}
}

func TestGetAtPlaces(t *testing.T) { // P7.5: below 0, at the end, behind it; spare room is no place
	whole := hist.Put(hist.Put(nil, ones(5, 3)), ones(9, 1))
	for _, at := range []int{-1, -2, math.MinInt, len(whole), len(whole) + 1, math.MaxInt} {
		refused(t, whole, at)
		refused(t, nil, at)
	}
	refused(t, nil, 0)
	refused(t, []byte{}, 0)
	l, next, ok := hist.Get(whole, 0)
	if !slices.Equal(l, ones(5, 3)) || !ok {
		t.Fatal(l, next, ok)
	}
	refused(t, whole[:next], next)
	if l, end, ok := hist.Get(whole, next); !slices.Equal(l, ones(9, 1)) || end != len(whole) || !ok {
		t.Error(l, end, ok)
	}
	for at := range whole {
		gets(t, whole, at)
	}
}

func TestWhatIsGotIsPut(t *testing.T) { // P7.5: as the same bytes
	d := draws(33)
	for range 20000 {
		b := []byte{byte(d.below(2))}
		for range d.below(12) {
			b = binary.AppendUvarint(b, uint64(d.below(6)))
		}
		l, next, ok := hist.Get(b, 0)
		if ok && !bytes.Equal(hist.Put(nil, l), b[:next]) {
			t.Fatalf("%x is got as %v, which is put as %x", b[:next], l, hist.Put(nil, l))
		}
	}
}
