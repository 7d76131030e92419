package sum_test

import (
	"bytes"
	"hash/crc32"
	"testing"

	"varve/sum"
)

// registers are sums to go on with: none, all ones, single bits, and others.
var registers = []uint32{0, 0xffffffff, 1, 0x80000000, 0x82f63b78, 0x7d09c487, 0x55555555, 0xaaaaaaaa, 0xe3069283, 0x0000ffff, 0xffff0000}

// slow is P3.1's words, bit by bit.
func slow(s uint32, b []byte) uint32 {
	register := s ^ 0xffffffff
	for _, one := range b {
		register ^= uint32(one)
		for i := 0; i < 8; i++ {
			out := register & 1
			register >>= 1
			if out == 1 {
				register ^= 0x82f63b78
			}
		}
	}
	return register ^ 0xffffffff
}

// mixed are n bytes, the same ones for a seed in each run.
func mixed(n int, seed uint64) []byte {
	out := make([]byte, n)
	for i := range out {
		seed = seed*6364136223846793005 + 1442695040888963407
		out[i] = byte(seed >> 56)
	}
	return out
}

// turn turns the bits of stretch, the lowest first, in a copy of b from that bit on.
func turn(b []byte, from int, stretch uint32) []byte {
	out := bytes.Clone(b)
	for i := range 32 {
		if stretch>>i&1 == 1 {
			out[(from+i)/8] ^= 1 << ((from + i) % 8)
		}
	}
	return out
}

// P3.1: the chapter's examples, and others that are known.
func TestExamples(t *testing.T) {
	for _, x := range []struct {
		text string
		sum  uint32
	}{
		{"", 0},
		{"123456789", 0xe3069283},
		{"a", 0xc1d04330},
		{string(make([]byte, 32)), 0x8a9136aa},
		{string(bytes.Repeat([]byte{0xff}, 32)), 0x62a8ab43},
	} {
		if got := sum.Of([]byte(x.text)); got != x.sum {
			t.Errorf("Of(%q) = %08x, want %08x", x.text, got, x.sum)
		}
	}
	if got := sum.Of(nil); got != 0 {
		t.Errorf("Of(nil) = %08x, want 0", got)
	}
}

// P3.1: no bytes leave any sum as it is.
func TestNoBytes(t *testing.T) {
	for _, s := range registers {
		if a, b := sum.More(s, nil), sum.More(s, []byte{}); a != s || b != s {
			t.Errorf("More(%08x) of no bytes = %08x and %08x", s, a, b)
		}
	}
}

// P3.1: one byte of each value behind each register.
func TestOneByte(t *testing.T) {
	for _, s := range registers {
		for v := range 256 {
			one := []byte{byte(v)}
			if got, want := sum.More(s, one), slow(s, one); got != want {
				t.Errorf("More(%08x, %02x) = %08x, want %08x", s, v, got, want)
			}
			if got, want := sum.Of(one), slow(0, one); got != want {
				t.Errorf("Of(%02x) = %08x, want %08x", v, got, want)
			}
		}
	}
}

// P3.1: strings of all lengths, behind each register; and Of is More behind 0.
func TestStrings(t *testing.T) {
	for n := range 300 {
		b := mixed(n, uint64(n))
		for _, s := range registers {
			if got, want := sum.More(s, b), slow(s, b); got != want {
				t.Fatalf("More(%08x, %x) = %08x, want %08x", s, b, got, want)
			}
		}
		if got, want := sum.Of(b), slow(0, b); got != want {
			t.Fatalf("Of(%x) = %08x, want %08x", b, got, want)
		}
	}
	long := mixed(1<<20, 7)
	if got, want := sum.Of(long), crc32.Checksum(long, crc32.MakeTable(crc32.Castagnoli)); got != want {
		t.Errorf("Of 2^20 bytes = %08x, want %08x", got, want)
	}
}

// P3.1, R4: a sum hangs on the bytes alone, whatever was summed ahead of it, and wherever they stand.
func TestNothingKept(t *testing.T) {
	b := []byte("123456789")
	room := append(make([]byte, 0, 64), "x123456789y"...)
	for range 3 {
		if sum.Of(b) != 0xe3069283 || sum.Of(room[1:10]) != 0xe3069283 {
			t.Error("one string has two sums")
		}
		sum.More(0xffffffff, mixed(100, 3))
	}
}

// R3: the bytes that are handed in are left as they are, spare room too.
func TestHandedInIsLeft(t *testing.T) {
	room := mixed(64, 5)
	was := bytes.Clone(room)
	sum.Of(room[:20])
	sum.More(9, room[20:40])
	if !bytes.Equal(room, was) {
		t.Error("the bytes were changed")
	}
}

// P3.2: a string cut at each place, or at two, has the sum of the whole.
func TestCut(t *testing.T) {
	for _, b := range [][]byte{nil, {0}, {0xff}, []byte("123456789"), mixed(40, 1), make([]byte, 40), bytes.Repeat([]byte{0xff}, 40)} {
		want := sum.Of(b)
		for i := range len(b) + 1 {
			if got := sum.More(sum.Of(b[:i]), b[i:]); got != want {
				t.Errorf("%x cut at %d: %08x, want %08x", b, i, got, want)
			}
			for j := i; j <= len(b); j++ {
				if got := sum.More(sum.More(sum.Of(b[:i]), b[i:j]), b[j:]); got != want {
					t.Errorf("%x cut at %d and %d: %08x, want %08x", b, i, j, got, want)
				}
			}
		}
	}
}

// P3.2: one bit that is turned is told, wherever it is.
func TestOneBit(t *testing.T) {
	for _, b := range [][]byte{{0}, {0xff}, mixed(2, 2), mixed(33, 3), make([]byte, 64), mixed(500, 4)} {
		for i := range len(b) * 8 {
			if sum.Of(turn(b, i, 1)) == sum.Of(b) {
				t.Errorf("%x: bit %d", b, i)
			}
		}
	}
}

// P3.2: what is turned in a stretch of up to 32 bits is told: all stretches of up to ten, and of each longer length
// some, from each bit on, within bytes and over their borders.
func TestStretches(t *testing.T) {
	b := mixed(12, 6)
	was := sum.Of(b)
	check := func(from int, stretch uint32) {
		t.Helper()
		if sum.Of(turn(b, from, stretch)) == was {
			t.Fatalf("%x: stretch %08x from bit %d", b, stretch, from)
		}
	}
	for from := range (len(b) - 4) * 8 {
		for stretch := uint32(1); stretch < 1<<10; stretch++ {
			check(from, stretch)
		}
		for wide := 10; wide < 32; wide++ {
			ends := uint32(1) | 1<<wide
			check(from, ends)
			check(from, 1<<(wide+1)-1|ends)
			for _, middle := range []uint32{0x82f63b78, 0x05ec76f1, 0x55555555, 0xaaaaaaaa, 0x9e3779b9} {
				check(from, middle&(1<<wide-1)|ends)
			}
		}
	}
	for from := (len(b) - 4) * 8; from < len(b)*8; from++ { // those that end with the string
		check(from, 1)
		check(from, 1<<(len(b)*8-from)-1)
	}
}

// P3.2: a stretch may have any bits behind any: no two fillings of one stretch of 32 bits have one sum.
func TestFillings(t *testing.T) {
	for _, from := range []int{0, 3, 8, 29} {
		b := make([]byte, 9)
		seen := map[uint32]uint32{}
		for i := range uint32(1 << 14) {
			filling := i * 0x9e3779b1 // an odd number: no two fillings are one
			s := sum.Of(turn(b, from, filling))
			if other, ok := seen[s]; ok {
				t.Fatalf("from bit %d: %08x and %08x have the sum %08x", from, other, filling, s)
			}
			seen[s] = filling
		}
	}
}
