package vint_test

import (
	"bytes"
	"encoding/binary"
	"math"
	"math/big"
	"slices"
	"strings"
	"testing"

	"varve/vint"
)

const most = math.MaxUint64

// greatest is 2^64 - 1 as bytes.
const greatest = "\xff\xff\xff\xff\xff\xff\xff\xff\xff\x01"

// numbers are those at each border of seven bits, at each power of two, and some between.
func numbers() []uint64 {
	out := []uint64{0, 1, 2, 3, 5, 100, 127, 128, 129, 300, most / 3, most - 2, most - 1, most}
	for i := range 64 {
		p := uint64(1) << i
		out = append(out, p-1, p, p+1)
	}
	seed := uint64(4)
	for i := range 2000 {
		seed = seed*6364136223846793005 + 1442695040888963407
		out = append(out, seed>>(i%64))
	}
	slices.Sort(out)
	return slices.Compact(out)
}

// whole are whole numbers with signs, the least and the greatest among them.
func whole() []int {
	out := []int{math.MinInt, math.MinInt + 1, -65, -64, -2, -1, math.MaxInt - 1, math.MaxInt}
	for _, v := range numbers() {
		out = append(out, int(v>>1), -int(v>>1))
	}
	return out
}

// slow is P4.1's words: seven bits a byte, the lowest first, 80 added in all but the last.
func slow(v uint64) []byte {
	out := []byte{}
	rest, low := new(big.Int).SetUint64(v), new(big.Int)
	for {
		rest.DivMod(rest, big.NewInt(128), low)
		one := byte(low.Uint64())
		if rest.Sign() == 0 {
			return append(out, one)
		}
		out = append(out, one+0x80)
	}
}

// slowGet is P4.1's words the other way round: what the bytes up to the first below 80 say, if Put makes them of it.
func slowGet(b []byte, at int) (uint64, int, bool) {
	if at < 0 || at >= len(b) {
		return 0, 0, false
	}
	v := new(big.Int)
	for i := at; i < len(b); i++ {
		part := big.NewInt(int64(b[i] % 128))
		v.Add(v, part.Lsh(part, uint(7*(i-at))))
		if b[i] >= 0x80 {
			continue
		}
		if v.BitLen() > 64 || !bytes.Equal(slow(v.Uint64()), b[at:i+1]) {
			return 0, 0, false
		}
		return v.Uint64(), i + 1, true
	}
	return 0, 0, false
}

// slowRise is P4.3's words.
func slowRise(l []uint64) []byte {
	out := slow(uint64(len(l)))
	whole := new(big.Int).Lsh(big.NewInt(1), 64)
	for i, v := range l {
		if i == 0 {
			out = append(out, slow(v)...)
			continue
		}
		less := new(big.Int).Sub(new(big.Int).SetUint64(v), new(big.Int).SetUint64(l[i-1]))
		less.Sub(less, big.NewInt(1))
		out = append(out, slow(less.Mod(less, whole).Uint64())...)
	}
	return out
}

// slowGetRise is P4.3's words the other way round.
func slowGetRise(b []byte, at, most int) ([]uint64, int, bool) {
	n, next, ok := slowGet(b, at)
	left := len(b) - next
	if !ok || new(big.Int).SetUint64(n).Cmp(big.NewInt(int64(most))) > 0 || new(big.Int).SetUint64(n).Cmp(big.NewInt(int64(left))) > 0 {
		return nil, 0, false
	}
	var l []uint64
	ahead := big.NewInt(-1)
	for range n {
		more, behind, ok := slowGet(b, next)
		ahead.Add(ahead, new(big.Int).SetUint64(more))
		ahead.Add(ahead, big.NewInt(1))
		if !ok || ahead.BitLen() > 64 {
			return nil, 0, false
		}
		l, next = append(l, ahead.Uint64()), behind
	}
	return l, next, true
}

// none are the places that are none of b's.
func none(b []byte) []int {
	return []int{-1, -2, math.MinInt, len(b), len(b) + 1, len(b) + 1000, math.MaxInt}
}

// P4.1: the chapter's examples, and each border of seven bits.
func TestPut(t *testing.T) {
	for _, x := range []struct {
		v    uint64
		want string
	}{
		{0, "\x00"},
		{1, "\x01"},
		{127, "\x7f"},
		{128, "\x80\x01"},
		{129, "\x81\x01"},
		{300, "\xac\x02"},
		{1<<14 - 1, "\xff\x7f"},
		{1 << 14, "\x80\x80\x01"},
		{1<<21 - 1, "\xff\xff\x7f"},
		{1 << 21, "\x80\x80\x80\x01"},
		{1<<28 - 1, "\xff\xff\xff\x7f"},
		{1 << 28, "\x80\x80\x80\x80\x01"},
		{1<<35 - 1, "\xff\xff\xff\xff\x7f"},
		{1 << 35, "\x80\x80\x80\x80\x80\x01"},
		{1<<42 - 1, "\xff\xff\xff\xff\xff\x7f"},
		{1 << 42, "\x80\x80\x80\x80\x80\x80\x01"},
		{1<<49 - 1, "\xff\xff\xff\xff\xff\xff\x7f"},
		{1 << 49, "\x80\x80\x80\x80\x80\x80\x80\x01"},
		{1<<56 - 1, "\xff\xff\xff\xff\xff\xff\xff\x7f"},
		{1 << 56, "\x80\x80\x80\x80\x80\x80\x80\x80\x01"},
		{1<<63 - 1, "\xff\xff\xff\xff\xff\xff\xff\xff\x7f"},
		{1 << 63, "\x80\x80\x80\x80\x80\x80\x80\x80\x80\x01"},
		{most, greatest},
	} {
		if got := vint.Put(nil, x.v); string(got) != x.want {
			t.Errorf("Put(nil, %d) = %x, want %x", x.v, got, x.want)
		}
		if got := vint.Put([]byte("ab"), x.v); string(got) != "ab"+x.want {
			t.Errorf("Put(ab, %d) = %x, want ab and %x", x.v, got, x.want)
		}
		if v, next, ok := vint.Get([]byte(x.want), 0); v != x.v || next != len(x.want) || !ok {
			t.Errorf("Get(%x, 0) = %d, %d, %t", x.want, v, next, ok)
		}
	}
}

// P4.1, P4.4: Put is as the chapter's words say, and what was put is got, wherever it stands.
func TestPutIsGot(t *testing.T) {
	for _, v := range numbers() {
		b := vint.Put([]byte{}, v)
		if want := slow(v); !bytes.Equal(b, want) || !bytes.Equal(b, binary.AppendUvarint(nil, v)) {
			t.Fatalf("Put(%d) = %x, want %x", v, b, want)
		}
		for _, ahead := range []string{"", "\x00", "\x80", "\xff\xff\xff\xff\xff\xff\xff\xff\xff\xff\xff"} {
			for _, behind := range []string{"", "\x00", "\x80", "\x7f\xff"} {
				all := append(vint.Put([]byte(ahead), v), behind...)
				if got, next, ok := vint.Get(all, len(ahead)); got != v || next != len(ahead)+len(b) || !ok {
					t.Fatalf("Get(%x, %d) = %d, %d, %t", all, len(ahead), got, next, ok)
				}
			}
		}
	}
}

// P4.1: numbers that break off, that are not the shortest, that would be 2^64 or more.
func TestGetNone(t *testing.T) {
	nine := strings.Repeat("\x80", 9)
	full := strings.Repeat("\xff", 9)
	for _, b := range []string{
		"",
		"\x80", "\xff", "\x80\x80", nine, full, nine + "\x80", full + "\xff", nine + nine + nine, full + full + full,
		"\x80\x00", "\xff\x00", "\x80\x80\x00", "\xff\xff\x00", nine[:8] + "\x00", nine + "\x00", full + "\x00",
		nine + "\x80\x00", nine + "\x81\x00", full + "\x81\x00", nine + nine + "\x00",
		nine + "\x02", full + "\x02", full + "\x03", full + "\x7f", nine + "\x40", nine + "\x80\x01", full + "\xff\x01", nine + nine + "\x01",
	} {
		for _, ahead := range []string{"", "\x00", "ab"} {
			if v, next, ok := vint.Get([]byte(ahead+b), len(ahead)); v != 0 || next != 0 || ok {
				t.Errorf("Get(%x, %d) = %d, %d, %t", ahead+b, len(ahead), v, next, ok)
			}
			if v, next, ok := vint.GetInt([]byte(ahead+b), len(ahead)); v != 0 || next != 0 || ok {
				t.Errorf("GetInt(%x, %d) = %d, %d, %t", ahead+b, len(ahead), v, next, ok)
			}
			if s, next, ok := vint.GetText([]byte(ahead+b), len(ahead), math.MaxInt); s != "" || next != 0 || ok {
				t.Errorf("GetText(%x, %d) = %q, %d, %t", ahead+b, len(ahead), s, next, ok)
			}
			if l, next, ok := vint.GetRise([]byte(ahead+b), len(ahead), math.MaxInt); len(l) != 0 || next != 0 || ok {
				t.Errorf("GetRise(%x, %d) = %d, %d, %t", ahead+b, len(ahead), l, next, ok)
			}
		}
	}
}

// P4.1, P4.2, P4.3: places that are none of b's, whatever stands in its spare room.
func TestPlaces(t *testing.T) {
	room := []byte{0, 0, 0, 0}
	for _, b := range [][]byte{nil, {}, {0}, {0, 0, 0}, room[:0], room[:2], {1, 0}} {
		for _, at := range none(b) {
			if v, next, ok := vint.Get(b, at); v != 0 || next != 0 || ok {
				t.Errorf("Get(%x, %d) = %d, %d, %t", b, at, v, next, ok)
			}
			if v, next, ok := vint.GetInt(b, at); v != 0 || next != 0 || ok {
				t.Errorf("GetInt(%x, %d) = %d, %d, %t", b, at, v, next, ok)
			}
			for _, top := range []int{math.MinInt, -1, 0, 1, math.MaxInt} {
				if s, next, ok := vint.GetText(b, at, top); s != "" || next != 0 || ok {
					t.Errorf("GetText(%x, %d, %d) = %q, %d, %t", b, at, top, s, next, ok)
				}
				if l, next, ok := vint.GetRise(b, at, top); len(l) != 0 || next != 0 || ok {
					t.Errorf("GetRise(%x, %d, %d) = %d, %d, %t", b, at, top, l, next, ok)
				}
			}
		}
	}
	// A number that breaks off at b's end does not go on in its spare room.
	for _, b := range [][]byte{{0x80, 0x01}, {0x02, 0x00, 0x00}} {
		cut := b[:1]
		if v, next, ok := vint.Get(cut, 0); ok && next > 1 {
			t.Errorf("Get(%x, 0) = %d, %d, %t", cut, v, next, ok)
		}
		if _, _, ok := vint.GetText(cut, 0, 9); ok {
			t.Errorf("GetText(%x) reads the spare room", cut)
		}
		if _, _, ok := vint.GetRise(cut, 0, 9); ok {
			t.Errorf("GetRise(%x) reads the spare room", cut)
		}
	}
}

// P4.1: whole numbers with signs.
func TestInts(t *testing.T) {
	for _, x := range []struct {
		v    int
		want string
	}{
		{0, "\x00"}, {-1, "\x01"}, {1, "\x02"}, {-2, "\x03"}, {2, "\x04"},
		{63, "\x7e"}, {-64, "\x7f"}, {64, "\x80\x01"}, {-65, "\x81\x01"},
		{math.MaxInt, "\xfe\xff\xff\xff\xff\xff\xff\xff\xff\x01"}, {math.MinInt, greatest},
	} {
		if got := vint.PutInt([]byte("x"), x.v); string(got) != "x"+x.want {
			t.Errorf("PutInt(x, %d) = %x, want x and %x", x.v, got, x.want)
		}
		if v, next, ok := vint.GetInt([]byte("x"+x.want+"y"), 1); v != x.v || next != 1+len(x.want) || !ok {
			t.Errorf("GetInt(%x) = %d, %d, %t, want %d", x.want, v, next, ok, x.v)
		}
	}
	for _, v := range whole() {
		two := new(big.Int).Mul(big.NewInt(int64(v)), big.NewInt(2))
		if v < 0 {
			two.Sub(two.Neg(two), big.NewInt(1))
		}
		b := vint.PutInt(nil, v)
		if !bytes.Equal(b, slow(two.Uint64())) {
			t.Fatalf("PutInt(%d) = %x", v, b)
		}
		if got, next, ok := vint.GetInt(b, 0); got != v || next != len(b) || !ok {
			t.Fatalf("GetInt(%x) = %d, %d, %t, want %d", b, got, next, ok, v)
		}
	}
}

// P4.2: texts of no bytes, of just most and of one more, and ones whose bytes are not all there.
func TestTexts(t *testing.T) {
	for _, n := range []int{0, 1, 2, 3, 126, 127, 128, 129, 16383, 16384} {
		s := strings.Repeat("\xff\x00a", n)[:n]
		for _, ahead := range []string{"", "\x80", "abc"} {
			b := vint.PutText([]byte(ahead), s)
			if want := ahead + string(slow(uint64(n))) + s; string(b) != want {
				t.Fatalf("PutText of %d bytes = %x, want %x", n, b, want)
			}
			for _, behind := range []string{"", "\x00", "abc"} {
				all := append(bytes.Clone(b), behind...)
				for _, top := range []int{n, n + 1, math.MaxInt} {
					if got, next, ok := vint.GetText(all, len(ahead), top); got != s || next != len(b) || !ok {
						t.Fatalf("GetText of %d bytes, at most %d = %q, %d, %t", n, top, got, next, ok)
					}
				}
				for _, top := range []int{n - 1, -1, math.MinInt} {
					if got, next, ok := vint.GetText(all, len(ahead), top); got != "" || next != 0 || ok {
						t.Fatalf("GetText of %d bytes, at most %d = %q, %d, %t", n, top, got, next, ok)
					}
				}
			}
			for cut := len(ahead); cut < len(b); cut++ {
				if got, next, ok := vint.GetText(b[:cut:cut], len(ahead), math.MaxInt); got != "" || next != 0 || ok {
					t.Fatalf("GetText of %d bytes cut to %d = %q, %d, %t", n, cut, got, next, ok)
				}
			}
		}
	}
	for _, n := range []uint64{4, 1<<31 - 1, 1 << 31, 1<<32 + 3, 1<<63 - 1, 1 << 63, 1<<63 + 3, most} {
		if got, next, ok := vint.GetText(append(slow(n), "abc"...), 0, math.MaxInt); got != "" || next != 0 || ok {
			t.Errorf("GetText of three bytes said to be %d = %q, %d, %t", n, got, next, ok)
		}
	}
}

// P4.3: the chapter's example, lists of none, of one, that rise, and that do not.
func TestPutRise(t *testing.T) {
	for _, x := range []struct {
		l    []uint64
		want string
	}{
		{nil, "\x00"},
		{[]uint64{}, "\x00"},
		{[]uint64{0}, "\x01\x00"},
		{[]uint64{most}, "\x01" + greatest},
		{[]uint64{5, 6, 9}, "\x03\x05\x00\x02"},
		{[]uint64{0, 1, 2, 3}, "\x04\x00\x00\x00\x00"},
		{[]uint64{0, most}, "\x02\x00\xfe\xff\xff\xff\xff\xff\xff\xff\xff\x01"},
		{[]uint64{most - 1, most}, "\x02\xfe\xff\xff\xff\xff\xff\xff\xff\xff\x01\x00"},
		{[]uint64{5, 5}, "\x02\x05" + greatest},
		{[]uint64{5, 4}, "\x02\x05\xfe\xff\xff\xff\xff\xff\xff\xff\xff\x01"},
		{[]uint64{most, 0}, "\x02" + greatest + "\x00"},
		{[]uint64{9, 0, 9}, "\x03\x09\xf6\xff\xff\xff\xff\xff\xff\xff\xff\x01\x08"},
	} {
		if got := vint.PutRise([]byte("x"), x.l); string(got) != "x"+x.want {
			t.Errorf("PutRise(x, %d) = %x, want x and %x", x.l, got, x.want)
		}
		if got, want := vint.PutRise(nil, x.l), slowRise(x.l); !bytes.Equal(got, want) {
			t.Errorf("PutRise(nil, %d) = %x, want %x", x.l, got, want)
		}
		l, next, ok := vint.GetRise([]byte("x"+x.want), 1, len(x.l))
		if rises(x.l) && (!ok || next != 1+len(x.want) || !slices.Equal(l, x.l)) {
			t.Errorf("GetRise(%x) = %d, %d, %t, want %d", x.want, l, next, ok, x.l)
		}
		if !rises(x.l) && (ok || next != 0 || len(l) != 0) {
			t.Errorf("GetRise(%x) = %d, %d, %t, want none", x.want, l, next, ok)
		}
	}
}

// rises tells whether each is above the one ahead.
func rises(l []uint64) bool {
	for i := 1; i < len(l); i++ {
		if l[i] <= l[i-1] {
			return false
		}
	}
	return true
}

// lists are rising ones of many lengths, dense and wide.
func lists() [][]uint64 {
	all := numbers()
	out := [][]uint64{nil, {0}, {most}, {0, most}, all}
	for step := 1; step < len(all); step = step*3 + 1 {
		for from := range 4 {
			var l []uint64
			for i := from; i < len(all); i += step {
				l = append(l, all[i])
			}
			out = append(out, l)
		}
	}
	for _, n := range []int{1, 2, 126, 127, 128, 129, 300} {
		low, high := make([]uint64, n), make([]uint64, n)
		for i := range n {
			low[i], high[i] = uint64(i), most-uint64(n)+1+uint64(i)
		}
		out = append(out, low, high)
	}
	return out
}

// P4.3, P4.4: a list that rises is got as it was put; of less than it has, or cut, it is none.
func TestRiseIsGot(t *testing.T) {
	for _, l := range lists() {
		for _, ahead := range []string{"", "\x80", "abc"} {
			b := vint.PutRise([]byte(ahead), l)
			if want := ahead + string(slowRise(l)); string(b) != want {
				t.Fatalf("PutRise(%d) = %x, want %x", l, b, want)
			}
			all := append(bytes.Clone(b), "\x00\x80"...)
			for _, top := range []int{len(l), len(l) + 1, math.MaxInt} {
				if got, next, ok := vint.GetRise(all, len(ahead), top); !slices.Equal(got, l) || next != len(b) || !ok {
					t.Fatalf("GetRise of %d, at most %d = %d, %d, %t", l, top, got, next, ok)
				}
			}
			for _, top := range []int{len(l) - 1, -1, math.MinInt} {
				if got, next, ok := vint.GetRise(all, len(ahead), top); len(got) != 0 || next != 0 || ok {
					t.Fatalf("GetRise of %d numbers, at most %d = %d, %d, %t", len(l), top, got, next, ok)
				}
			}
		}
		b := vint.PutRise(nil, l)
		for cut := range b {
			if got, next, ok := vint.GetRise(b[:cut:cut], 0, math.MaxInt); len(got) != 0 || next != 0 || ok {
				t.Fatalf("GetRise of %d bytes cut to %d = %d, %d, %t", len(b), cut, got, next, ok)
			}
		}
	}
}

// P4.3: lists of more than the bytes left, with a number missing, or not the shortest, or of 2^64 or more.
func TestGetRiseNone(t *testing.T) {
	for _, b := range []string{
		"\x01", "\x02\x05", "\x05\x01\x01", "\x03\x01\x01",
		"\x02\x05\x80", "\x02\x80\x01", "\x02\x05\x80\x00", "\x01\x80\x00",
		"\x02" + greatest + "\x00", "\x02" + greatest + "\x05", "\x02" + greatest + greatest,
		"\x02\x00" + greatest, "\x02\x01\xfe\xff\xff\xff\xff\xff\xff\xff\xff\x01",
		"\x02\x05\xfa\xff\xff\xff\xff\xff\xff\xff\xff\x01",
		"\x03\x00\xfe\xff\xff\xff\xff\xff\xff\xff\xff\x01\x00",
		"\x01\xff\xff\xff\xff\xff\xff\xff\xff\xff\x02",
		"\x80\x00", greatest + "\x00\x00", "\xff\xff\xff\xff\xff\xff\xff\xff\x7f\x00\x00", "\x80\x80\x80\x80\x80\x80\x80\x80\x80\x01\x00", "\x80\x80\x80\x80\x10\x00",
	} {
		if l, next, ok := vint.GetRise([]byte(b), 0, math.MaxInt); len(l) != 0 || next != 0 || ok {
			t.Errorf("GetRise(%x) = %d, %d, %t", b, l, next, ok)
		}
	}
	// Just at the bounds: the greatest of all is still one.
	for _, x := range []struct {
		b    string
		want []uint64
	}{
		{"\x02\x05\xf9\xff\xff\xff\xff\xff\xff\xff\xff\x01", []uint64{5, most}},
		{"\x02\x01\xfd\xff\xff\xff\xff\xff\xff\xff\xff\x01", []uint64{1, most}},
		{"\x03\x00\xfd\xff\xff\xff\xff\xff\xff\xff\xff\x01\x00", []uint64{0, most - 1, most}},
		{"\x02\x01\x01", []uint64{1, 3}},
	} {
		if l, next, ok := vint.GetRise([]byte(x.b), 0, 3); !slices.Equal(l, x.want) || next != len(x.b) || !ok {
			t.Errorf("GetRise(%x) = %d, %d, %t, want %d", x.b, l, next, ok, x.want)
		}
	}
}

// strange calls f with many byte strings, short ones of the bytes at which something turns and longer mixed ones.
func strange(f func(b []byte)) {
	turns := []byte{0x00, 0x01, 0x02, 0x03, 0x7f, 0x80, 0x81, 0xfe, 0xff}
	count := 1
	for n := range 5 {
		for i := range count {
			b := make([]byte, n)
			for at, rest := 0, i; at < n; at, rest = at+1, rest/len(turns) {
				b[at] = turns[rest%len(turns)]
			}
			f(b)
		}
		count *= len(turns)
	}
	seed := uint64(1)
	for range 3000 {
		var b []byte
		for len(b) < 40 {
			seed = seed*6364136223846793005 + 1442695040888963407
			b = append(b, turns[seed>>60%9])
			if seed>>40&3 == 0 {
				b = append(b, strings.Repeat("\xff", int(seed>>50%10))...)
			}
		}
		f(b)
	}
}

// P4.1 to P4.4: whatever the bytes, what is got is what the words say, and it is put as the same bytes.
func TestGotIsPut(t *testing.T) {
	strange(func(b []byte) {
		before := string(b)
		for at := range b {
			v, next, ok := vint.Get(b, at)
			wv, wnext, wok := slowGet(b, at)
			if v != wv || next != wnext || ok != wok {
				t.Fatalf("Get(%x, %d) = %d, %d, %t, want %d, %d, %t", b, at, v, next, ok, wv, wnext, wok)
			}
			if ok && !bytes.Equal(vint.Put(b[:at], v), b[:next]) {
				t.Fatalf("Put of what was got at %d in %x is not the same", at, b)
			}
			n, inext, iok := vint.GetInt(b, at)
			if inext != next || iok != ok || !ok && n != 0 || ok && !bytes.Equal(vint.PutInt(b[:at], n), b[:next]) {
				t.Fatalf("GetInt(%x, %d) = %d, %d, %t", b, at, n, inext, iok)
			}
			s, snext, sok := vint.GetText(b, at, 20)
			if want := ok && v <= 20 && v <= uint64(len(b)-next); sok != want || want && snext != next+int(v) || !want && (s != "" || snext != 0) {
				t.Fatalf("GetText(%x, %d) = %q, %d, %t", b, at, s, snext, sok)
			}
			if sok && !bytes.Equal(vint.PutText(b[:at], s), b[:snext]) {
				t.Fatalf("PutText of what was got at %d in %x is not the same", at, b)
			}
			for _, top := range []int{-1, 0, 1, 2, 3, 20} {
				l, lnext, lok := vint.GetRise(b, at, top)
				wl, wlnext, wlok := slowGetRise(b, at, top)
				if !slices.Equal(l, wl) || lnext != wlnext || lok != wlok {
					t.Fatalf("GetRise(%x, %d, %d) = %d, %d, %t, want %d, %d, %t", b, at, top, l, lnext, lok, wl, wlnext, wlok)
				}
				if lok && !bytes.Equal(vint.PutRise(b[:at], l), b[:lnext]) {
					t.Fatalf("PutRise of what was got at %d in %x is not the same", at, b)
				}
			}
		}
		if string(b) != before {
			t.Fatalf("%x was turned to %x", before, b)
		}
	})
}

// R3, P4.1 to P4.3: what is put lies in new memory, and b is not turned, nor its spare room.
func TestRoomIsLeft(t *testing.T) {
	list := []uint64{3, 200, 70000, most}
	puts := map[string]func(b []byte) []byte{
		"Put 0":          func(b []byte) []byte { return vint.Put(b, 0) },
		"Put most":       func(b []byte) []byte { return vint.Put(b, most) },
		"PutInt":         func(b []byte) []byte { return vint.PutInt(b, -12345) },
		"PutInt above":   func(b []byte) []byte { return vint.PutInt(b, 12345) },
		"PutText none":   func(b []byte) []byte { return vint.PutText(b, "") },
		"PutText":        func(b []byte) []byte { return vint.PutText(b, "some text") },
		"PutRise none":   func(b []byte) []byte { return vint.PutRise(b, nil) },
		"PutRise":        func(b []byte) []byte { return vint.PutRise(b, list) },
		"PutRise spared": func(b []byte) []byte { return vint.PutRise(b, list[:2]) },
	}
	for name, put := range puts {
		for size := range 20 {
			for room := range 40 {
				whole := bytes.Repeat([]byte{0xaa}, size+room)
				first, second := put(whole[:size]), put(whole[:size])
				if !bytes.Equal(first, second) || !bytes.Equal(first[:size], whole[:size]) || !bytes.Equal(first[size:], put(nil)) {
					t.Fatalf("%s behind %d bytes: %x and %x", name, size, first, second)
				}
				for i := range first[:cap(first)] {
					first[:cap(first)][i] = 0x55
				}
				if !bytes.Equal(whole, bytes.Repeat([]byte{0xaa}, size+room)) || !bytes.Equal(second, put(whole[:size])) {
					t.Fatalf("%s behind %d bytes shares memory: %x", name, size, whole)
				}
			}
		}
	}
	if !slices.Equal(list, []uint64{3, 200, 70000, most}) {
		t.Errorf("the list was turned: %d", list)
	}
}

// R3: what is got shares no memory with b, nor with what another call got.
func TestGotIsApart(t *testing.T) {
	b := vint.PutRise(vint.PutText(nil, "abc"), []uint64{1, 5, 9})
	s, at, _ := vint.GetText(b, 0, 3)
	one, _, _ := vint.GetRise(b, at, 3)
	two, _, _ := vint.GetRise(b, at, 3)
	one = append(one[:1], 77, 78)
	for i := range b {
		b[i] = 0xee
	}
	if s != "abc" || !slices.Equal(two, []uint64{1, 5, 9}) || !slices.Equal(one, []uint64{1, 77, 78}) {
		t.Errorf("%q, %d, %d", s, one, two)
	}
}
