package wal_test

import (
	"bytes"
	"math"
	"slices"
	"strconv"
	"strings"
	"testing"

	"varve/api"
	"varve/frame"
	"varve/vfs"
	"varve/wal"
)

// must checks that calls answer OK.
func must(t *testing.T, errors ...api.Errno) {
	t.Helper()
	for i, e := range errors {
		if e != api.OK {
			t.Fatalf("call %d answers %v", i, e)
		}
	}
}

// framed is a record as a file has it.
func framed(r api.Rec) string {
	b, _ := frame.Put(nil, wal.PutRec(nil, r))
	return string(b)
}

// chain are the frames of the writes with these Seqs.
func chain(seqs ...int) string {
	out := ""
	for _, seq := range seqs {
		out += framed(write(seq))
	}
	return out
}

// sized is the frame of a deletion that has so many bytes.
func sized(t *testing.T, seq, n int) string {
	t.Helper()
	m := api.Matcher{Op: api.Or}
	add := func(name, value int) int {
		m.Kids = append(m.Kids, api.Matcher{Op: api.Is, Name: strings.Repeat("a", name), Value: strings.Repeat("v", value)})
		return n - len(framed(gone(seq, m)))
	}
	left := n
	for left > 71 {
		left = add(1, api.MaxValue)
	}
	// The last one has three bytes beside its name and value.
	value := min(left-4, api.MaxValue)
	if add(left-3-value, value) != 0 {
		t.Fatal("that is no deletion of", n, "bytes")
	}
	return framed(gone(seq, m))
}

// laid is a directory of files that are certain: names and bytes.
func laid(t *testing.T, namesAndBytes ...string) *vfs.FS {
	t.Helper()
	var names []string
	var data [][]byte
	for i := 0; i < len(namesAndBytes); i += 2 {
		names = append(names, namesAndBytes[i])
		data = append(data, []byte(namesAndBytes[i+1]))
	}
	f, e := vfs.Laid(names, data)
	must(t, e)
	return f
}

// opened is the log of a directory that Open takes.
func opened(t *testing.T, f *vfs.FS, from int) *wal.Log {
	t.Helper()
	l, _, e := wal.Open(f, from)
	must(t, e)
	return l
}

// read is a file's bytes, or "none".
func read(f *vfs.FS, name string) string {
	b, e := f.Read(name)
	if e != api.OK {
		return "none"
	}
	return string(b)
}

// alike checks that two directories are the same: what is there, how many calls there were, what crashes leave.
func alike(t *testing.T, f, g *vfs.FS) {
	t.Helper()
	same := func(f, g *vfs.FS) bool {
		for _, name := range f.List() {
			if read(f, name) != read(g, name) {
				return false
			}
		}
		return slices.Equal(f.List(), g.List())
	}
	if !same(f, g) || f.Calls() != g.Calls() {
		t.Fatalf("it has %q by %d calls, not %q by %d", f.List(), f.Calls(), g.List(), g.Calls())
	}
	for ops := range 5 {
		for _, picks := range [][]int{nil, {1}, {2, 0}, {40}, {1 << 30}} {
			if !same(f.Crash(ops, picks), g.Crash(ops, picks)) {
				t.Fatalf("a crash by %d, %v leaves something else", ops, picks)
			}
		}
	}
}

// opens checks what Open tells: the Seqs of the records and the file's number.
func opens(t *testing.T, f *vfs.FS, from, last int, seqs ...int) {
	t.Helper()
	calls := f.Calls()
	l, recs, e := wal.Open(f, from)
	var got []int
	for _, r := range recs {
		got = append(got, r.Seq)
	}
	if e != api.OK || l == nil || l.Last() != last || !slices.Equal(got, seqs) || f.Calls() != calls {
		t.Errorf("Open(%d) of %q answers %v, %v", from, f.List(), got, e)
	}
	for _, r := range recs {
		if r.Kind == api.RecWrite && !equal(r, write(r.Seq)) {
			t.Errorf("%+v is none of those that were written", r)
		}
	}
}

// opensNot checks that Open answers an error, and nothing else.
func opensNot(t *testing.T, f *vfs.FS, from int, want api.Errno) {
	t.Helper()
	if l, recs, e := wal.Open(f, from); l != nil || len(recs) != 0 || e != want || f.Calls() != 0 {
		t.Errorf("Open(%d) of %q answers %v, %v, %v", from, f.List(), l, recs, e)
	}
}

// call is one of the file system's.
type call func(f *vfs.FS) api.Errno

func create(n int) call { return func(f *vfs.FS) api.Errno { return f.Create(wal.Name(n)) } }
func sync(n int) call   { return func(f *vfs.FS) api.Errno { return f.Sync(wal.Name(n)) } }
func cutTo(n, size int) call {
	return func(f *vfs.FS) api.Errno { return f.Cut(wal.Name(n), size) }
}
func put(n int, s string) call {
	return func(f *vfs.FS) api.Errno { return f.Append(wal.Name(n), []byte(s)) }
}
func syncDir(f *vfs.FS) api.Errno { return f.SyncDir() }

// does checks that what is asked of a log makes just these calls, up to the first one that fails: held against another
// directory of which they are asked by hand, without a fault, and with each kind of it at each call.
func does(t *testing.T, fresh func() (*vfs.FS, *wal.Log), ask func(l *wal.Log) api.Errno, calls ...call) {
	t.Helper()
	for after := range len(calls) + 1 {
		for _, kind := range []api.Errno{api.OK, api.ErrSpace, api.ErrIO} {
			f, l := fresh()
			g, _ := fresh()
			must(t, f.Arm(kind, after), g.Arm(kind, after))
			want := api.OK
			for _, c := range calls {
				if want = c(g); want != api.OK {
					break
				}
			}
			if (want == api.OK) != (after == len(calls)) {
				t.Fatal("the calls by hand fail at another one:", want)
			}
			if e := ask(l); e != want {
				t.Errorf("with %v at call %d it answers %v", kind, after, e)
			}
			alike(t, f, g)
		}
	}
}

func ready(l *wal.Log) api.Errno { return l.Ready() }
func turn(l *wal.Log) api.Errno  { return l.Turn() }

// P17.3: ErrArg of a number without a name, whatever lies there.
func TestOpenOfNoName(t *testing.T) {
	for _, f := range []*vfs.FS{vfs.New(), laid(t, "log-00000000", chain(1), "log-99999999", chain(2)), laid(t, "log-00000000", "x")} {
		for _, from := range []int{-1, -2, math.MinInt, 100000000, 100000001, math.MaxInt} {
			opensNot(t, f, from, api.ErrArg)
		}
	}
}

// P17.3: no file, one, some one behind the other; what stands behind a gap, ahead of from or beside is not gone through.
func TestOpen(t *testing.T) {
	opens(t, vfs.New(), 0, 0)
	opens(t, vfs.New(), 3, 3)
	opens(t, vfs.New(), 99999999, 99999999)
	f := laid(t, "log-00000003", chain(1, 2), "log-00000002", "torn", "log-00000004", "", "log-00000005", chain(3, 4), "log-00000007", "torn", "log-6", "x", "manifest", "y", "log-00000006x", "z")
	opens(t, f, 3, 5, 1, 2, 3, 4)
	opens(t, f, 4, 5, 3, 4)
	opens(t, f, 5, 5, 3, 4)
	opens(t, f, 6, 6)
	opens(t, f, 7, 7)
	opens(t, f, 8, 8)
	opensNot(t, f, 2, api.ErrCorrupt)
	opens(t, f, 0, 0)
	opens(t, laid(t, "log-99999998", chain(1), "log-99999999", chain(2)), 99999998, 99999999, 1, 2)
	opens(t, laid(t, "log-00000001", "", "log-00000002", ""), 1, 2)
	// Any Seqs, however they follow one another; both kinds.
	opens(t, laid(t, "log-00000001", chain(5, 5, 2)+framed(gone(-9, api.Matcher{}))+chain(0)), 1, 1, 5, 5, 2, -9, 0)
}

// P17.3: a frame that is no record.
func TestOpenOfNoRecord(t *testing.T) {
	other := func(body string) string {
		b, _ := frame.Put(nil, []byte(body))
		return string(b)
	}
	for _, bad := range []string{other("x"), other("\x00"), other(string(wal.PutRec(nil, write(1))) + "\x00"), framed(api.Rec{}), framed(api.Rec{Kind: 3}), framed(api.Rec{Kind: api.RecWrite})} {
		for _, file := range []string{bad, chain(1) + bad, bad + chain(2), chain(1) + bad + chain(2), bad + "torn"} {
			opensNot(t, laid(t, "log-00000001", file), 1, api.ErrCorrupt)
			opensNot(t, laid(t, "log-00000001", file, "log-00000002", chain(3)), 1, api.ErrCorrupt)
			opensNot(t, laid(t, "log-00000001", chain(0), "log-00000002", file), 1, api.ErrCorrupt)
			opens(t, laid(t, "log-00000001", chain(0), "log-00000003", file), 1, 1, 0)
		}
		// Behind the first place without a frame nothing is a frame any more.
		opens(t, laid(t, "log-00000001", chain(1)+"\x00"+bad), 1, 1, 1)
	}
}

// P17.3: the last file may end anyhow, cut at any place or with anything behind it; the ones ahead may not.
func TestOpenOfTornFiles(t *testing.T) {
	whole := chain(1, 2, 3)
	first := len(chain(1))
	for n := range len(whole) + 1 {
		seqs := []int{1, 2, 3}[:n/first]
		file := whole[:n]
		opens(t, laid(t, "log-00000001", file), 1, 1, seqs...)
		opens(t, laid(t, "log-00000000", chain(9), "log-00000001", file), 0, 1, append([]int{9}, seqs...)...)
		for _, behind := range []string{"", chain(4), "\x00"} {
			f := laid(t, "log-00000001", file, "log-00000002", behind)
			if n%first != 0 {
				opensNot(t, f, 1, api.ErrCorrupt)
			} else if behind == chain(4) {
				opens(t, f, 1, 2, append(seqs, 4)...)
			} else {
				opens(t, f, 1, 2, seqs...)
			}
		}
	}
	for at := range len(whole) {
		turned := []byte(whole)
		turned[at] ^= 0x40
		opens(t, laid(t, "log-00000001", string(turned)), 1, 1, []int{1, 2, 3}[:at/first]...)
		opensNot(t, laid(t, "log-00000001", string(turned), "log-00000002", chain(4)), 1, api.ErrCorrupt)
	}
}

// P17.3: it reads alone: it fails by nothing, makes nothing, and does not meet what is armed.
func TestOpenReadsAlone(t *testing.T) {
	for _, kind := range []api.Errno{api.OK, api.ErrSpace, api.ErrIO} {
		fresh := func() *vfs.FS {
			f := laid(t, "log-00000001", chain(1), "log-00000002", chain(2)+"torn")
			must(t, f.Arm(kind, 0))
			return f
		}
		f, g := fresh(), fresh()
		opens(t, f, 1, 2, 1, 2)
		opens(t, f, 3, 3)
		opensNot(t, f, -1, api.ErrArg)
		alike(t, f, g)
		if f.SyncDir() == api.OK {
			t.Error("what was armed is gone")
		}
		opens(t, f, 1, 2, 1, 2)
	}
}

// P17.4: Create, Sync, SyncDir of a new one; Cut, Sync, SyncDir, where it is to be cut; else Sync and SyncDir.
func TestReady(t *testing.T) {
	for _, x := range []struct {
		files []string
		from  int
		calls []call
	}{
		{nil, 0, []call{create(0), sync(0), syncDir}},
		{nil, 99999999, []call{create(99999999), sync(99999999), syncDir}},
		{[]string{"log-00000007", chain(1)}, 6, []call{create(6), sync(6), syncDir}},
		{[]string{"log-00000007", ""}, 7, []call{sync(7), syncDir}},
		{[]string{"log-00000007", chain(1)}, 7, []call{sync(7), syncDir}},
		{[]string{"log-00000007", chain(1, 2)}, 7, []call{sync(7), syncDir}},
		{[]string{"log-00000007", "torn"}, 7, []call{cutTo(7, 0), sync(7), syncDir}},
		{[]string{"log-00000007", "\x00"}, 7, []call{cutTo(7, 0), sync(7), syncDir}},
		{[]string{"log-00000007", chain(1) + "torn"}, 7, []call{cutTo(7, len(chain(1))), sync(7), syncDir}},
		{[]string{"log-00000007", chain(1) + "\x00" + chain(2)}, 7, []call{cutTo(7, len(chain(1))), sync(7), syncDir}},
		{[]string{"log-00000007", chain(1, 2), "log-00000008", chain(3)[:9]}, 7, []call{cutTo(8, 0), sync(8), syncDir}},
		{[]string{"log-00000007", chain(1, 2), "log-00000008", chain(3)}, 7, []call{sync(8), syncDir}},
	} {
		fresh := func() (*vfs.FS, *wal.Log) {
			f := laid(t, x.files...)
			return f, opened(t, f, x.from)
		}
		does(t, fresh, ready, x.calls...)
		f, l := fresh()
		must(t, l.Ready())
		// From then on OK, and nothing.
		calls := f.Calls()
		must(t, f.Arm(api.OK, 0), l.Ready(), l.Ready())
		if f.Calls() != calls {
			t.Error("Ready makes calls again")
		}
	}
}

// P17.4: what is pending of the file is certain behind Ready, and so is its name.
func TestReadyMakesCertain(t *testing.T) {
	f := vfs.New()
	must(t, f.Create("log-00000001"), f.Append("log-00000001", []byte(chain(1)+"torn")))
	must(t, opened(t, f, 1).Ready())
	x := f.Crash(0, nil)
	opens(t, x, 1, 1, 1)
	if got := read(x, "log-00000001"); got != chain(1) {
		t.Errorf("it is %q", got)
	}
}

// P17.4: where Ready failed it is not done: the next one does it; what was done is not done once more.
func TestReadyAgain(t *testing.T) {
	for _, kind := range []api.Errno{api.ErrSpace, api.ErrIO} {
		for after, calls := range [][]call{{create(5), sync(5), syncDir}, {sync(5), syncDir}, {sync(5), syncDir}} {
			does(t, func() (*vfs.FS, *wal.Log) {
				f := vfs.New()
				l := opened(t, f, 5)
				f.Arm(kind, after)
				if e := l.Ready(); e != kind {
					t.Fatalf("Ready answers %v", e)
				}
				return f, l
			}, ready, calls...)
		}
		for after, calls := range [][]call{{cutTo(5, len(chain(1))), sync(5), syncDir}, {sync(5), syncDir}, {sync(5), syncDir}} {
			does(t, func() (*vfs.FS, *wal.Log) {
				f := laid(t, "log-00000005", chain(1)+"torn")
				l := opened(t, f, 5)
				f.Arm(kind, after)
				if e := l.Ready(); e != kind {
					t.Fatalf("Ready answers %v", e)
				}
				return f, l
			}, ready, calls...)
		}
	}
	f := vfs.New()
	l := opened(t, f, 5)
	must(t, f.Arm(api.OK, 1))
	for range 3 {
		if e := l.Ready(); e != api.ErrIO {
			t.Errorf("Ready without power answers %v", e)
		}
	}
	// Twice in a row.
	f = laid(t, "log-00000005", chain(1)+"torn")
	l = opened(t, f, 5)
	for after := range 2 {
		must(t, f.Arm(api.ErrSpace, after))
		if e := l.Ready(); e != api.ErrSpace {
			t.Errorf("Ready answers %v", e)
		}
	}
	must(t, l.Ready())
	opens(t, f.Crash(0, nil), 5, 5, 1)
}

// P17.4, P17.5: a record that came behind what an earlier try of Ready did is not lost by the next one.
func TestReadyLosesNothing(t *testing.T) {
	for after := 1; after <= 2; after++ {
		for _, files := range [][]string{nil, {"log-00000005", "torn"}, {"log-00000005", ""}} {
			f := laid(t, files...)
			l := opened(t, f, 5)
			must(t, f.Arm(api.ErrIO, after))
			if l.Ready() == api.OK {
				f.SyncDir() // meets what is armed
			}
			must(t, l.Append(write(1)), l.Ready(), l.Append(write(2)))
			opens(t, f.Crash(0, nil), 5, 5, 1, 2)
		}
	}
	// Turned ahead of Ready: then it is still about the file that was opened.
	for _, x := range []struct {
		file string
		want []int
	}{{"", []int{2, 3}}, {"torn", []int{2, 3}}, {chain(1) + "torn", []int{1, 2, 3}}} {
		f := laid(t, "log-00000005", x.file)
		l := opened(t, f, 5)
		must(t, l.Turn(), l.Append(write(2)), l.Ready(), l.Append(write(3)))
		opens(t, f.Crash(0, nil), 5, 6, x.want...)
	}
	f := vfs.New()
	l := opened(t, f, 5)
	must(t, l.Turn(), l.Append(write(2)), l.Ready())
	opens(t, f.Crash(0, nil), 5, 6, 2)
}

// P17.4: Append and Sync of the record's frame, behind what is there.
func TestAppend(t *testing.T) {
	for _, files := range [][]string{{"log-00000003", ""}, {"log-00000003", chain(1)}, {"log-00000003", chain(1) + "torn"}, {"log-00000002", chain(1), "log-00000003", chain(2, 3)}} {
		for _, r := range []api.Rec{write(7), gone(8, api.Matcher{Op: api.Is, Name: "a"}), {}, {Seq: -5, Kind: 9}, {Kind: api.RecWrite}} {
			does(t, func() (*vfs.FS, *wal.Log) {
				f := laid(t, files...)
				l := opened(t, f, 3-(len(files)/2-1))
				must(t, l.Ready())
				return f, l
			}, func(l *wal.Log) api.Errno { return l.Append(r) }, put(3, framed(r)), sync(3))
		}
	}
	f := vfs.New()
	l := opened(t, f, 1)
	must(t, l.Ready(), l.Append(write(1)), l.Append(write(2)), l.Append(write(3)))
	if got := read(f.Crash(0, nil), "log-00000001"); got != chain(1, 2, 3) || l.Last() != 1 {
		t.Errorf("it is %q", got)
	}
}

// P17.4: Append ahead of Ready: the file is not there, or is not cut yet.
func TestAppendAheadOfReady(t *testing.T) {
	f := vfs.New()
	l := opened(t, f, 1)
	if e := l.Append(write(1)); e != api.ErrNone || f.Calls() != 1 || len(f.List()) != 0 {
		t.Errorf("Append to no file answers %v", e)
	}
	must(t, l.Ready(), l.Append(write(1)))
	opens(t, f.Crash(0, nil), 1, 1, 1)
	f = laid(t, "log-00000001", chain(1))
	must(t, opened(t, f, 1).Append(write(2)))
	opens(t, f.Crash(0, nil), 1, 1, 1, 2)
}

// P17.4: with 4096 bytes or more Turn comes first; with fewer it does not, however long the record is.
func TestAppendTurns(t *testing.T) {
	long := sized(t, 6, 4200)
	last := func(f *vfs.FS) *wal.Log {
		l := opened(t, f, 3)
		must(t, l.Ready())
		return l
	}
	for _, n := range []int{4000, 4095, 4096, 4097, 4200} {
		for _, r := range []api.Rec{write(6), gone(7, api.Matcher{})} {
			calls := []call{put(3, framed(r)), sync(3)}
			if n >= 4096 {
				calls = []call{create(4), syncDir, put(4, framed(r)), sync(4)}
			}
			does(t, func() (*vfs.FS, *wal.Log) {
				f := laid(t, "log-00000003", sized(t, 5, n))
				return f, last(f)
			}, func(l *wal.Log) api.Errno { return l.Append(r) }, calls...)
		}
	}
	// What was appended counts, and what was there; of other files nothing does.
	f := laid(t, "log-00000002", long, "log-00000003", sized(t, 5, 4095-len(chain(1))), "log-00000005", long)
	l := last(f)
	for i, want := range []int{3, 3, 4, 4, 4} {
		must(t, l.Append(write(i)))
		if l.Last() != want {
			t.Fatalf("behind %d records it is file %d", i+1, l.Last())
		}
	}
	if got := read(f, "log-00000004"); got != chain(2, 3, 4) {
		t.Errorf("the next file is %q", got)
	}
	// The half of an Append that failed counts too.
	f = laid(t, "log-00000003", sized(t, 5, 4090))
	l = last(f)
	must(t, f.Arm(api.ErrSpace, 0))
	if l.Append(write(1)) != api.ErrSpace || l.Last() != 3 {
		t.Fatal("Append does not fail")
	}
	must(t, l.Append(write(2)))
	if l.Last() != 4 || read(f, "log-00000004") != chain(2) {
		t.Error("behind the half of a record it is file", l.Last())
	}
}

// P17.4: frame's ErrArg, without a call, but Turn comes first; a body just as long as may be is taken.
func TestAppendTooLong(t *testing.T) {
	long := func(n int) api.Rec {
		r := write(1)
		r.Row.Labels = []api.Label{{Name: "a", Value: strings.Repeat("v", api.MaxBody)}}
		over := len(wal.PutRec(nil, r)) - n
		r.Row.Labels[0].Value = strings.Repeat("v", api.MaxBody-over)
		if len(wal.PutRec(nil, r)) != n {
			t.Fatal("it has", len(wal.PutRec(nil, r)), "bytes")
		}
		return r
	}
	for _, n := range []int{api.MaxBody + 1, api.MaxBody + 2, 2 * api.MaxBody} {
		f := laid(t, "log-00000001", chain(1))
		l := opened(t, f, 1)
		must(t, l.Ready(), f.Arm(api.ErrSpace, 0))
		if e := l.Append(long(n)); e != api.ErrArg || f.Calls() != 2 || l.Last() != 1 || read(f, "log-00000001") != chain(1) {
			t.Errorf("Append of %d bytes answers %v", n, e)
		}
	}
	f := vfs.New()
	l := opened(t, f, 1)
	must(t, l.Ready(), l.Append(long(api.MaxBody)))
	if got := read(f, "log-00000001"); got != framed(long(api.MaxBody)) || l.Last() != 1 {
		t.Error("the longest one is not there")
	}
	does(t, func() (*vfs.FS, *wal.Log) {
		f := laid(t, "log-00000001", sized(t, 1, 4096))
		l := opened(t, f, 1)
		must(t, l.Ready())
		return f, l
	}, func(l *wal.Log) api.Errno {
		e := l.Append(long(api.MaxBody + 1))
		if e == api.ErrArg && l.Last() == 2 {
			return api.OK
		}
		return e
	}, create(2), syncDir)
}

// P17.4: Turn is Create and SyncDir; the next file is the log's if both answer OK.
func TestTurn(t *testing.T) {
	for _, from := range []int{0, 7, 99999998} {
		fresh := func() (*vfs.FS, *wal.Log) {
			f := laid(t, wal.Name(from), chain(1))
			l := opened(t, f, from)
			must(t, l.Ready())
			return f, l
		}
		does(t, fresh, turn, create(from+1), syncDir)
		does(t, fresh, func(l *wal.Log) api.Errno {
			if e := l.Turn(); e != api.OK {
				if l.Last() != from {
					t.Error("a Turn that failed goes on to file", l.Last())
				}
				return e
			}
			return l.Append(write(2))
		}, create(from+1), syncDir, put(from+1, chain(2)), sync(from+1))
	}
	f := vfs.New()
	l := opened(t, f, 1)
	must(t, l.Ready(), l.Turn(), l.Turn(), l.Append(write(1)), l.Turn())
	if l.Last() != 4 || !slices.Equal(f.List(), []string{"log-00000001", "log-00000002", "log-00000003", "log-00000004"}) {
		t.Error("it has", f.List())
	}
	opens(t, f.Crash(0, nil), 1, 4, 1)
}

// P17.4: behind a Turn that failed records go to the file as before, and another Turn makes the same next one.
func TestTurnAgain(t *testing.T) {
	for after := range 2 {
		f := vfs.New()
		l := opened(t, f, 1)
		must(t, l.Ready(), l.Append(write(1)), f.Arm(api.ErrIO, after))
		if l.Turn() != api.ErrIO || l.Last() != 1 {
			t.Error("Turn does not fail")
		}
		must(t, l.Append(write(2)), l.Turn(), l.Append(write(3)))
		if l.Last() != 2 || len(f.List()) != 2 {
			t.Error("it has", f.List())
		}
		opens(t, f.Crash(0, nil), 1, 2, 1, 2, 3)
	}
}

// P17.4: ErrFull, where there is no next number: nothing is done, Append answers it too, if it would turn.
func TestNoNextNumber(t *testing.T) {
	f := laid(t, "log-99999999", chain(1))
	l := opened(t, f, 99999999)
	must(t, l.Ready(), f.Arm(api.OK, 0))
	for range 2 {
		if e := l.Turn(); e != api.ErrFull || l.Last() != 99999999 || f.Calls() != 2 {
			t.Errorf("Turn answers %v", e)
		}
	}
	f = laid(t, "log-99999999", sized(t, 1, 4095))
	l = opened(t, f, 99999999)
	must(t, l.Ready(), l.Append(write(2)))
	calls := f.Calls()
	for range 2 {
		if e := l.Append(write(3)); e != api.ErrFull || l.Last() != 99999999 || f.Calls() != calls {
			t.Errorf("Append answers %v", e)
		}
	}
	opens(t, f.Crash(0, nil), 99999999, 99999999, 1, 2)
}

// P17.4: the file system's own errors are told: too many files.
func TestTooManyFiles(t *testing.T) {
	files := []string{"log-00000001", sized(t, 1, 4096)}
	for i := range api.MaxFiles - 1 {
		files = append(files, "x"+strconv.Itoa(i), "")
	}
	f := laid(t, files...)
	l := opened(t, f, 1)
	must(t, l.Ready())
	if l.Turn() != api.ErrFull || l.Append(write(2)) != api.ErrFull || l.Last() != 1 || len(f.List()) != api.MaxFiles {
		t.Error("a file more than may be")
	}
	other := opened(t, f, 5)
	if e := other.Ready(); e != api.ErrFull {
		t.Errorf("Ready answers %v", e)
	}
	must(t, f.Remove("x0"), other.Ready(), f.Remove("log-00000005"), l.Append(write(2)))
	if l.Last() != 2 {
		t.Error("Last is", l.Last())
	}
	opens(t, f, 1, 2, 1, 2)
}

// P17.4: Last is Open's till a Turn, whatever else is done.
func TestLast(t *testing.T) {
	f := laid(t, "log-00000004", chain(1), "log-00000005", "torn")
	l := opened(t, f, 4)
	if l.Last() != 5 || l.Ready() != api.OK || l.Last() != 5 || l.Append(write(1)) != api.OK || l.Last() != 5 || l.Turn() != api.OK || l.Last() != 6 || f.Calls() != 7 {
		t.Error("Last is", l.Last())
	}
}

// R3, R4: records are neither kept nor changed; two logs have nothing in common but their files.
func TestLogsApart(t *testing.T) {
	f, g := vfs.New(), vfs.New()
	l, k := opened(t, f, 1), opened(t, g, 1)
	must(t, l.Ready())
	r := write(1)
	must(t, l.Append(r), l.Turn())
	if !equal(r, write(1)) {
		t.Errorf("it became %+v", r)
	}
	r.Row.Labels[0].Value = "other"
	r.Row.S.Hist[0].N = 99
	opens(t, f, 1, 2, 1)
	if k.Last() != 1 || g.Calls() != 0 || k.Append(write(1)) != api.ErrNone {
		t.Error("another log is turned too")
	}
	// What Open told is apart from the files and from what another Open tells.
	_, one, _ := wal.Open(f, 1)
	_, two, _ := wal.Open(f, 1)
	one[0].Row.Labels[0].Name, one[0].Row.S.Hashes[0] = "z", 0
	must(t, f.Cut("log-00000001", 0), f.Append("log-00000001", bytes.Repeat([]byte{0xff}, 100)))
	if !equal(two[0], write(1)) {
		t.Errorf("it became %+v", two[0])
	}
}
