package wal_test

import (
	"bytes"
	"encoding/binary"
	"math"
	"reflect"
	"slices"
	"strings"
	"testing"

	"varve/api"
	"varve/label"
	"varve/match"
	"varve/pair"
	"varve/wal"
)

// draws is a row of numbers that look drawn, the same ones in each run.
type draws uint64

func (d *draws) below(n int) int {
	*d = *d*6364136223846793005 + 1442695040888963407
	return int(uint64(*d>>33) % uint64(n))
}

// oneOf is one of a list.
func oneOf[T any](d *draws, l ...T) T { return l[d.below(len(l))] }

// number is any, edges among them.
func (d *draws) number() int {
	return oneOf(d, 0, 1, -1, 63, 64, -64, -65, d.below(1000), -d.below(1000), api.Day, api.Slots, math.MaxInt, math.MinInt, int(*d))
}

func (d *draws) labels() []api.Label {
	l := []api.Label{{Name: "a", Value: oneOf(d, "x", "\x00", strings.Repeat("v", api.MaxValue))}}
	for _, name := range []string{"b", "c_1", "d", strings.Repeat("n", api.MaxName)} {
		if d.below(3) == 0 {
			l = append(l, api.Label{Name: name, Value: oneOf(d, "1", "\xff\"", "z")})
		}
	}
	return l
}

func (d *draws) sketch() api.Sketch {
	l := make([]api.Obs, oneOf(d, 0, 1, 2, 5, 30))
	for i := range l {
		l[i] = api.Obs{Value: uint64(d.number()), Item: string(rune('a' + d.below(26))), Bits: uint64(d.number())}
	}
	return pair.Of(l)
}

func (d *draws) matcher(depth int) api.Matcher {
	op := d.below(api.Not + 1)
	if depth == 0 {
		op = oneOf(d, api.All, api.Is, api.Among)
	}
	m := api.Matcher{Op: op}
	switch op {
	case api.Is, api.Isnt, api.Begins:
		m.Name, m.Value = oneOf(d, "a", "b"), oneOf(d, "", "x")
	case api.Among:
		m.Name, m.Values = "a", oneOf(d, []string{"x"}, []string{"", "y", "yy"})
	case api.And, api.Or:
		for range d.below(4) {
			m.Kids = append(m.Kids, d.matcher(depth-1))
		}
	case api.Not:
		m.Kids = []api.Matcher{d.matcher(depth - 1)}
	}
	return m
}

func (d *draws) rec() api.Rec {
	if d.below(2) == 0 {
		return api.Rec{Seq: d.number(), Kind: api.RecWrite, Row: api.Row{Labels: d.labels(), At: d.number(), S: d.sketch()}}
	}
	seq := d.number()
	return api.Rec{Seq: seq, Kind: api.RecDelete, Tomb: api.Tomb{Seq: seq, M: d.matcher(2), From: d.number(), To: d.number()}}
}

// write is a short record.
func write(seq int) api.Rec {
	return api.Rec{Seq: seq, Kind: api.RecWrite, Row: api.Row{Labels: []api.Label{{Name: "a", Value: "x"}}, At: 10 * seq, S: pair.Of([]api.Obs{{Value: uint64(seq), Item: "i"}})}}
}

func gone(seq int, m api.Matcher) api.Rec {
	return api.Rec{Seq: seq, Kind: api.RecDelete, Tomb: api.Tomb{Seq: seq, M: m, To: api.Day}}
}

// equal tells whether two records are the same, field by field; nil and an empty list are one.
func equal(a, b api.Rec) bool {
	return a.Seq == b.Seq && a.Kind == b.Kind &&
		slices.Equal(a.Row.Labels, b.Row.Labels) && a.Row.At == b.Row.At && pair.Same(a.Row.S, b.Row.S) &&
		a.Tomb.Seq == b.Tomb.Seq && match.Same(a.Tomb.M, b.Tomb.M) && a.Tomb.From == b.Tomb.From && a.Tomb.To == b.Tomb.To
}

// slowPut is P17.1's words; numbers are put by the library.
func slowPut(b []byte, r api.Rec) []byte {
	out := binary.AppendVarint(bytes.Clone(b), int64(r.Seq))
	out = binary.AppendUvarint(out, uint64(r.Kind))
	if r.Kind == api.RecWrite {
		out = label.Put(out, r.Row.Labels)
		out = binary.AppendVarint(out, int64(r.Row.At))
		return pair.Put(out, r.Row.S)
	}
	out = match.Put(out, r.Tomb.M)
	out = binary.AppendVarint(out, int64(r.Tomb.From))
	return binary.AppendVarint(out, int64(r.Tomb.To))
}

// refused checks that GetRec answers nothing.
func refused(t *testing.T, b []byte) {
	t.Helper()
	if r, ok := wal.GetRec(b); ok || !reflect.ValueOf(r).IsZero() {
		t.Errorf("GetRec(%x) = %+v, %t", b[:min(len(b), 80)], r, ok)
	}
}

// P17.1: the bytes.
func TestPutRec(t *testing.T) {
	x := []api.Label{{Name: "a", Value: "x"}}
	is := api.Matcher{Op: api.Is, Name: "a", Value: "x"}
	for _, c := range []struct {
		r    api.Rec
		want string
	}{
		{api.Rec{Kind: 1}, "\x00\x01\x00\x00\x00\x00\x00\x00\x00"},
		{api.Rec{Seq: 3, Kind: 1, Row: api.Row{Labels: x, At: 30}}, "\x06\x01\x01\x01a\x01x\x3c\x00\x00\x00\x00\x00"},
		{api.Rec{Seq: -1, Kind: 1, Row: api.Row{Labels: x, At: -65}}, "\x01\x01\x01\x01a\x01x\x81\x01\x00\x00\x00\x00\x00"},
		{api.Rec{Seq: 64, Kind: 1, Row: api.Row{Labels: x, S: api.Sketch{Hist: []api.Bucket{{At: 5, N: 1}}, Hashes: []uint64{7, 9}, Gauge: api.Gauge{NaNs: 3}}}}, "\x80\x01\x01\x01\x01a\x01x\x00\x00\x01\x05\x01\x02\x07\x01\x03\x00"},
		{api.Rec{Seq: 7, Kind: 2, Tomb: api.Tomb{Seq: 7, M: is, To: api.Day}}, "\x0e\x02\x01\x01a\x01x\x00\x80\x87\x01"},
		{api.Rec{Kind: 2}, "\x00\x02\x00\x00\x00"},
		{api.Rec{Seq: 1, Kind: 2, Tomb: api.Tomb{From: -3, To: -1}}, "\x02\x02\x00\x05\x01"},
		// Of a kind that is none all is put like a deletion.
		{api.Rec{}, "\x00\x00\x00\x00\x00"},
		{api.Rec{Seq: 2, Kind: 3, Row: api.Row{Labels: x, At: 5}, Tomb: api.Tomb{M: is, From: 1, To: 2}}, "\x04\x03\x01\x01a\x01x\x02\x04"},
		{api.Rec{Kind: 300}, "\x00\xac\x02\x00\x00\x00"},
		{api.Rec{Kind: -1}, "\x00\xff\xff\xff\xff\xff\xff\xff\xff\xff\x01\x00\x00\x00"},
	} {
		for _, ahead := range []string{"", "x", "\x80\xff"} {
			if got := wal.PutRec([]byte(ahead), c.r); string(got) != ahead+c.want {
				t.Errorf("PutRec(%x, %+v) = %x", ahead, c.r, got)
			}
		}
		if got := wal.PutRec(nil, c.r); string(got) != c.want {
			t.Errorf("PutRec(nil, %+v) = %x", c.r, got)
		}
	}
}

// P17.1: what was put is got; a byte less, a byte more is no record.
func TestWhatWasPutIsGot(t *testing.T) {
	d := draws(1)
	for range 3000 {
		r := d.rec()
		b := wal.PutRec(nil, r)
		if !bytes.Equal(b, slowPut(nil, r)) {
			t.Fatalf("PutRec(nil, %+v) = %x", r, b)
		}
		if got, ok := wal.GetRec(b); !ok || !equal(got, r) {
			t.Fatalf("%+v is got as %+v, %t", r, got, ok)
		}
		n := d.below(len(b))
		refused(t, b[:n])
		refused(t, b[:n:n])
		refused(t, append(b[:len(b):len(b)], byte(d.below(256))))
		refused(t, append(b[:len(b):len(b)], b...))
		refused(t, append([]byte("\x00"), b...))
	}
	for _, r := range []api.Rec{write(1), gone(2, api.Matcher{Op: api.Not, Kids: []api.Matcher{{}}})} {
		b := wal.PutRec(nil, r)
		for n := range b {
			refused(t, b[:n])
		}
	}
}

// P17.1: a Tomb's Seq is the record's; what a kind does not have is zero, whatever it was put with.
func TestPartsOfTheOtherKind(t *testing.T) {
	w, g := write(5), gone(6, api.Matcher{Op: api.Is, Name: "a"})
	both := w
	both.Tomb = g.Tomb
	if r, ok := wal.GetRec(wal.PutRec(nil, both)); !ok || !equal(r, w) || !reflect.ValueOf(r.Tomb).IsZero() {
		t.Errorf("a write is %+v, %t", r, ok)
	}
	both = g
	both.Row, both.Tomb.Seq = w.Row, 99
	if r, ok := wal.GetRec(wal.PutRec(nil, both)); !ok || !equal(r, g) || !reflect.ValueOf(r.Row).IsZero() {
		t.Errorf("a deletion is %+v, %t", r, ok)
	}
}

// P17.1: of slots, bounds and Seqs all numbers are taken; an empty sketch is one.
func TestAnyNumbers(t *testing.T) {
	for _, n := range []int{0, 1, -1, api.Slots, math.MaxInt, math.MinInt} {
		for _, r := range []api.Rec{
			{Seq: n, Kind: 1, Row: api.Row{Labels: []api.Label{{Name: "a", Value: "x"}}, At: n}},
			{Seq: n, Kind: 2, Tomb: api.Tomb{Seq: n, From: n, To: n}},
			{Seq: n, Kind: 2, Tomb: api.Tomb{Seq: n, From: n, To: -n}},
		} {
			if got, ok := wal.GetRec(wal.PutRec(nil, r)); !ok || !equal(got, r) {
				t.Errorf("%+v is got as %+v, %t", r, got, ok)
			}
		}
	}
}

// P17.1: kinds that are none; labels, matchers, sketches that may not be; numbers that are not the shortest.
func TestGetRecOfWrongOnes(t *testing.T) {
	right := write(1)
	for _, kind := range []int{0, 3, 4, -1, -2, 129, 1 << 32, 1<<32 + 1, math.MaxInt, math.MinInt, math.MinInt + 1} {
		for _, r := range []api.Rec{right, gone(1, api.Matcher{}), {}} {
			r.Kind = kind
			refused(t, wal.PutRec(nil, r))
			refused(t, append(binary.AppendUvarint([]byte{2}, uint64(kind)), wal.PutRec(nil, right)[2:]...))
		}
	}
	turned := func(change func(*api.Row)) api.Rec {
		r := write(1)
		change(&r.Row)
		return r
	}
	for _, r := range []api.Rec{
		turned(func(r *api.Row) { r.Labels = nil }),
		turned(func(r *api.Row) { r.Labels = []api.Label{{Name: "b", Value: "x"}, {Name: "a", Value: "x"}} }),
		turned(func(r *api.Row) { r.Labels[0].Value = "" }),
		turned(func(r *api.Row) { r.Labels[0].Name = "A" }),
		turned(func(r *api.Row) { r.Labels[0].Value = strings.Repeat("v", api.MaxValue+1) }),
		turned(func(r *api.Row) { r.S.Gauge = api.Gauge{N: 1, Lo: math.Float64bits(2), Hi: math.Float64bits(1)} }),
		gone(1, api.Matcher{Op: 8}), gone(1, api.Matcher{Op: -1}), gone(1, api.Matcher{Op: api.Not}), gone(1, api.Matcher{Op: api.Is, Name: "A"}),
	} {
		refused(t, wal.PutRec(nil, r))
	}
	for _, b := range []string{
		"", "\x00", "\x00\x00", "\x00\x01", "\x00\x02", "\x00\x03", "\x00\xff\x01", "\x00\x02\x00", "\x00\x02\x00\x00", "\x80\x00\x02\x00\x00\x00", "\x00\x82\x00\x00\x00\x00", "\x00\x02\x80\x00\x00\x00", "\x00\x02\x00\x80\x00\x00", "\x00\x02\x00\x00\x80\x00",
		"\x00\x02\x00\x00\x00\x00", "\xff\xff\xff\xff\xff\xff\xff\xff\xff\x02\x02\x00\x00\x00", "\x00\x01\x01\x01a\x01x\x80\x00\x00\x00\x00\x00\x00", "\x00\x01\x01\x01a\x01x\x00\x01\x05\x01\x01\x00\x00\x00",
	} {
		refused(t, []byte(b))
	}
	if r, ok := wal.GetRec([]byte("\x00\x02\x00\x00\x00")); !ok || !equal(r, api.Rec{Kind: 2}) {
		t.Errorf("the shortest one is %+v, %t", r, ok)
	}
}

// P17.1, R1: of any bytes GetRec tells nothing, or a record that is put as these bytes.
func TestGetRecOfTurnedBytes(t *testing.T) {
	d := draws(7)
	n := 0
	for range 60 {
		b := wal.PutRec(nil, d.rec())
		if len(b) > 120 {
			continue
		}
		for at := range b {
			turned := bytes.Clone(b)
			for one := range 256 {
				turned[at] = byte(one)
				r, ok := wal.GetRec(turned)
				if !ok {
					refused(t, turned)
					continue
				}
				n++
				if !bytes.Equal(wal.PutRec(nil, r), turned) || r.Kind == api.RecDelete && r.Tomb.Seq != r.Seq {
					t.Fatalf("GetRec(%x) = %+v", turned, r)
				}
			}
		}
	}
	if n < 1000 {
		t.Errorf("%d turned ones are got", n)
	}
}

// R1: neither panics, and both end, whatever they are given.
func TestRecordsOfAnything(t *testing.T) {
	self := api.Matcher{Op: api.And, Kids: make([]api.Matcher, 2)}
	self.Kids[0], self.Kids[1] = self, self
	for _, r := range []api.Rec{
		gone(1, self), gone(1, api.Matcher{Op: api.Among, Values: make([]string, 100)}),
		{Kind: 1, Row: api.Row{Labels: make([]api.Label, 1000)}},
		{Kind: 1, Row: api.Row{S: api.Sketch{Hist: []api.Bucket{{At: -5, N: 0}, {At: math.MaxInt, N: 7}, {At: math.MinInt, N: 1}}, Hashes: []uint64{9, 3, 3, math.MaxUint64}, Gauge: api.Gauge{Lo: math.MaxUint64}}}},
	} {
		refused(t, wal.PutRec(nil, r))
	}
	for _, part := range []string{"\x00", "\x01", "\x02", "\x05", "\x07", "\x80", "\xff", "\x00\x02\x05\x3f"} {
		refused(t, bytes.Repeat([]byte(part), 1<<20))
	}
}

// R3: what stands behind b stays; what is told is apart from b, and from the record.
func TestPutRecIsNewMemory(t *testing.T) {
	for _, r := range []api.Rec{write(1), gone(2, api.Matcher{Op: api.Among, Name: "a", Values: []string{"x"}}), {}} {
		for _, n := range []int{0, 1, 9} {
			room := bytes.Repeat([]byte{0xaa}, 1000)
			got := wal.PutRec(room[:n], r)
			clear(got[:cap(got)])
			if !bytes.Equal(room, bytes.Repeat([]byte{0xaa}, 1000)) {
				t.Fatal("PutRec turned what it was handed")
			}
			again := wal.PutRec(room[:n], r)
			want := bytes.Clone(again)
			clear(room)
			if !bytes.Equal(again, want) {
				t.Fatal("what PutRec told hangs on what it was handed")
			}
		}
	}
	room := bytes.Repeat([]byte{0xaa}, 100)
	if wal.PutRec(room[:0], write(1)); room[0] != 0xaa {
		t.Error("PutRec turned spare room")
	}
}

// R3: a record is apart from its bytes, and from another one of them.
func TestGetRecIsNewMemory(t *testing.T) {
	for _, want := range []api.Rec{write(1), gone(2, api.Matcher{Op: api.Or, Kids: []api.Matcher{{Op: api.Among, Name: "a", Values: []string{"x", "y"}}}})} {
		b := wal.PutRec(nil, want)
		before := bytes.Clone(b)
		one, _ := wal.GetRec(b)
		two, _ := wal.GetRec(b)
		clear(one.Row.Labels)
		clear(one.Row.S.Hist)
		clear(one.Row.S.Hashes)
		for _, kid := range one.Tomb.M.Kids {
			clear(kid.Values)
		}
		clear(one.Tomb.M.Kids)
		if !bytes.Equal(b, before) {
			t.Fatalf("%x became %x", before, b)
		}
		clear(b)
		if !equal(two, want) {
			t.Fatalf("the answer became %+v", two)
		}
	}
}

// P17.2: eight digits; numbers that have no name, names that have no number.
func TestNames(t *testing.T) {
	for n, want := range map[int]string{
		0: "log-00000000", 1: "log-00000001", 7: "log-00000007", 10: "log-00000010", 1234567: "log-01234567", 12345678: "log-12345678", 99999998: "log-99999998", 99999999: "log-99999999",
		-1: "", -7: "", 100000000: "", 100000007: "", math.MaxInt: "", math.MinInt: "",
	} {
		if got := wal.Name(n); got != want {
			t.Errorf("Name(%d) = %q", n, got)
		}
		if got, ok := wal.Number(want); want != "" && (got != n || !ok) || want == "" && (got != 0 || ok) {
			t.Errorf("Number(%q) = %d, %t", want, got, ok)
		}
	}
	for _, name := range []string{
		"", "log", "log-", "log-7", "log-0000007", "log-000000007", "log-100000000", "log-0000000a", "log-a0000000", "log-0000000/", "log-0000000:", "blk-00000007", "Log-00000007", "log_00000007", "log+00000007",
		"log--0000007", "log-+0000007", "log--0000000", "log-+0000000", "log- 0000007", "log-0000007 ", "log-0000 007", "log-0x000007", "log-0_000007", "log-00000_07", "log-1e000000", "log-000000.7", "00000007", "log-00000007\x00", " log-00000007", "log-0000000\xff", "log-٠٠٠٠", "xlog-00000007",
		strings.Repeat("log-00000007", 2), "log-" + strings.Repeat("0", 1<<20),
	} {
		if n, ok := wal.Number(name); n != 0 || ok {
			t.Errorf("Number(%.40q) = %d, %t", name, n, ok)
		}
	}
	for n := 0; n < 100000000; n += 9973 {
		if got, ok := wal.Number(wal.Name(n)); got != n || !ok || len(wal.Name(n)) != 12 {
			t.Fatalf("%d is %q, then %d, %t", n, wal.Name(n), got, ok)
		}
	}
}
