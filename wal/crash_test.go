package wal_test

import (
	"fmt"
	"slices"
	"strings"
	"testing"

	"varve/api"
	"varve/frame"
	"varve/vfs"
	"varve/wal"
)

// story is a log's: the records that Append answered OK, and whether Ready did.
type story struct {
	f     *vfs.FS
	l     *wal.Log
	from  int
	sure  []api.Rec
	also  []api.Rec // the one that was being appended
	ready bool
}

// begin opens the log of a directory of which these records are sure.
func begin(t *testing.T, f *vfs.FS, from int, sure []api.Rec) *story {
	t.Helper()
	l, recs, e := wal.Open(f, from)
	if e != api.OK || !slices.EqualFunc(recs, sure, equal) {
		t.Fatalf("Open of %q tells %d records, %v, not %d", f.List(), len(recs), e, len(sure))
	}
	return &story{f: f, l: l, from: from, sure: slices.Clone(sure)}
}

// goes does what a letter says, and tells whether it answered OK: r Ready, t Turn, a short record, A one of some size, d a
// deletion.
func (s *story) goes(letter byte, seq int) bool {
	var r api.Rec
	switch letter {
	case 'r':
		s.ready = s.l.Ready() == api.OK
		return s.ready
	case 't':
		return s.l.Turn() == api.OK
	case 'a':
		r = write(seq)
	case 'A':
		r = write(seq)
		r.Row.S.Hashes = nil
		for i := range uint64(300) {
			r.Row.S.Hashes = append(r.Row.S.Hashes, i<<54)
		}
	case 'd':
		r = gone(seq, api.Matcher{Op: api.Is, Name: "a"})
	}
	if s.l.Append(r) != api.OK {
		s.also = []api.Rec{r}
		return false
	}
	s.sure = append(s.sure, r)
	return true
}

// left checks what a crash left: all that is sure, and at most the one that was being appended; and tells it.
func (s *story) left(t *testing.T, x *vfs.FS) []api.Rec {
	t.Helper()
	_, recs, e := wal.Open(x, s.from)
	if e != api.OK || !slices.EqualFunc(recs, s.sure, equal) && !slices.EqualFunc(recs, append(slices.Clone(s.sure), s.also...), equal) {
		t.Fatalf("behind a crash there are %d records of %d, %v, in %q", len(recs), len(s.sure), e, x.List())
	}
	return recs
}

// crashes are those of a directory by few turns and units, all kinds of them, those that leave the same just once.
func crashes(f *vfs.FS) []*vfs.FS {
	var out []*vfs.FS
	seen := map[string]bool{}
	for ops := range 4 {
		for _, picks := range [][]int{nil, {1}, {2}, {5}, {20}, {1100}, {1 << 30}, {0, 1 << 30}, {1 << 30, 0}, {3, 1100}} {
			x := f.Crash(ops, picks)
			what := ""
			for _, name := range x.List() {
				what += name + read(x, name)
			}
			if !seen[what] {
				seen[what] = true
				out = append(out, x)
			}
		}
	}
	return out
}

// powerGoes lives a story through with the power going at each of its calls, checks what each crash leaves, and goes on
// with it.
func powerGoes(t *testing.T, kind api.Errno, fresh func() *story, letters string, on func(x *vfs.FS, sure []api.Rec)) {
	t.Helper()
	for after := 0; ; after++ {
		s := fresh()
		must(t, s.f.Arm(kind, after))
		met := false
		for i := range len(letters) {
			if !s.goes(letters[i], 100+i) {
				met = true
				break
			}
		}
		for _, x := range crashes(s.f) {
			recs := s.left(t, x)
			if on != nil {
				on(x, recs)
			}
		}
		if !met {
			return
		}
	}
}

// P17.5: the power goes at each call; behind the crash too, when the log is made ready and goes on.
func TestPowerGoes(t *testing.T) {
	for _, letters := range []string{"r", "raaa", "rAAAAA", "rataat", "rdadAAAaAta", "rtttA"} {
		fresh := func() *story { return begin(t, vfs.New(), 3, nil) }
		powerGoes(t, api.OK, fresh, letters, func(x *vfs.FS, sure []api.Rec) {
			again := func() *story { return begin(t, x.Crash(0, nil), 3, sure) }
			powerGoes(t, api.OK, again, "rda", nil)
		})
	}
}

// P17.5: behind a fault of another kind nothing more is done, but to open it anew, with and without a crash.
func TestFaultThenOpen(t *testing.T) {
	for _, kind := range []api.Errno{api.ErrSpace, api.ErrIO} {
		fresh := func() *story { return begin(t, vfs.New(), 3, nil) }
		for after := 0; ; after++ {
			s := fresh()
			must(t, s.f.Arm(kind, after))
			letters, met := "rdaAAAAta", false
			for i := 0; i < len(letters) && !met; i++ {
				met = !s.goes(letters[i], i)
			}
			for _, x := range crashes(s.f) {
				s.left(t, x)
			}
			if !met {
				break
			}
			recs := s.left(t, s.f)
			next := begin(t, s.f, 3, recs)
			for i := range 4 {
				if !next.goes("raaa"[i], 50+i) {
					t.Fatal("it does not go on")
				}
			}
			for _, x := range crashes(s.f) {
				next.left(t, x)
			}
		}
	}
}

// P17.5: a frame is torn at each of its bytes.
func TestTornAtEachByte(t *testing.T) {
	for _, letter := range "adA" {
		s := begin(t, vfs.New(), 0, nil)
		if !s.goes('r', 0) || !s.goes('a', 1) {
			t.Fatal("it does not begin")
		}
		must(t, s.f.Arm(api.ErrIO, 1))
		if s.goes(byte(letter), 2) {
			t.Fatal("the Sync does not fail")
		}
		size := len(framed(s.also[0]))
		for p := range size + 2 {
			x := s.f.Crash(0, []int{p})
			if recs := s.left(t, x); (len(recs) == 2) != (p >= size) {
				t.Fatalf("with %d bytes of %d there are %d records", p, size, len(recs))
			}
			next := begin(t, x, 0, s.left(t, x))
			if !next.goes('r', 0) || !next.goes('a', 3) {
				t.Fatal("it does not go on")
			}
			next.left(t, x.Crash(0, nil))
		}
	}
}

// P17.5: crashes behind crashes, drawn.
func TestManyCrashes(t *testing.T) {
	for seed := range 300 {
		d := draws(seed)
		f, sure := vfs.New(), []api.Rec(nil)
		for range 8 {
			s := begin(t, f, 9, sure)
			must(t, f.Arm(oneOf(&d, api.OK, api.OK, api.ErrSpace, api.ErrIO), d.below(30)))
			for i := 0; i < 12; i++ {
				letter := byte('r')
				if i > 0 {
					letter = oneOf[byte](&d, 'a', 'a', 'A', 'A', 'd', 't', 'r')
				}
				if !s.goes(letter, d.below(1000)) {
					break
				}
			}
			f = f.Crash(d.below(4), []int{d.below(3000), d.below(60)}[:d.below(3)])
			sure = s.left(t, f)
		}
	}
}

// slow is a log by the chapter's words, over a directory of its own.
type slow struct {
	f        *vfs.FS
	file     int
	first    string // the file that Ready is about
	cut      int
	readyYet bool
}

func slowName(n int) string { return fmt.Sprintf("log-%08d", n) }

func slowOpen(f *vfs.FS, from int) (*slow, []api.Rec, api.Errno) {
	if from < 0 || from > 99999999 {
		return nil, nil, api.ErrArg
	}
	files := 0
	for slices.Contains(f.List(), slowName(from+files)) {
		files++
	}
	l := &slow{f: f, file: from + max(files, 1) - 1, cut: -1}
	l.first = slowName(l.file)
	var recs []api.Rec
	for i := range files {
		b, _ := f.Read(slowName(from + i))
		for _, body := range frame.All(b) {
			r, ok := wal.GetRec(body)
			if !ok {
				return nil, nil, api.ErrCorrupt
			}
			recs = append(recs, r)
		}
		if end, whole := frame.Ends(b); !whole {
			if i < files-1 {
				return nil, nil, api.ErrCorrupt
			}
			l.cut = end
		}
	}
	return l, recs, api.OK
}

func (l *slow) ready() api.Errno {
	if l.readyYet {
		return api.OK
	}
	if !slices.Contains(l.f.List(), l.first) {
		if e := l.f.Create(l.first); e != api.OK {
			return e
		}
	} else if l.cut >= 0 {
		if e := l.f.Cut(l.first, l.cut); e != api.OK {
			return e
		}
	}
	l.cut = -1
	if e := l.f.Sync(l.first); e != api.OK {
		return e
	}
	if e := l.f.SyncDir(); e != api.OK {
		return e
	}
	l.readyYet = true
	return api.OK
}

func (l *slow) append(r api.Rec) api.Errno {
	if len(read(l.f, slowName(l.file))) >= 4096 {
		if e := l.turn(); e != api.OK {
			return e
		}
	}
	b, e := frame.Put(nil, wal.PutRec(nil, r))
	if e != api.OK {
		return e
	}
	if e := l.f.Append(slowName(l.file), b); e != api.OK {
		return e
	}
	return l.f.Sync(slowName(l.file))
}

func (l *slow) turn() api.Errno {
	if l.file == 99999999 {
		return api.ErrFull
	}
	if e := l.f.Create(slowName(l.file + 1)); e != api.OK {
		return e
	}
	if e := l.f.SyncDir(); e != api.OK {
		return e
	}
	l.file++
	return api.OK
}

// both opens both, and checks that they tell the same.
func both(t *testing.T, f, g *vfs.FS, from int) (*wal.Log, *slow) {
	t.Helper()
	l, recs, e := wal.Open(f, from)
	k, want, wantE := slowOpen(g, from)
	if e != wantE || !slices.EqualFunc(recs, want, equal) || (l == nil) != (k == nil) {
		t.Fatalf("Open(%d) of %q tells %d records, %v, not %d, %v", from, f.List(), len(recs), e, len(want), wantE)
	}
	return l, k
}

// P17.3, P17.4: drawn scripts with faults, crashes, damage, each call in any order, held against the chapter's words.
func TestScripts(t *testing.T) {
	opened, full := 0, sized(t, 1, 4096)
	for seed := range 600 {
		d := draws(seed)
		f, g := vfs.New(), vfs.New()
		from := oneOf(&d, 0, 7, 99999997)
		l, k := both(t, f, g, from)
		for range 40 {
			if d.below(8) == 0 {
				kind, after := oneOf(&d, api.OK, api.ErrSpace, api.ErrIO), d.below(6)
				must(t, f.Arm(kind, after), g.Arm(kind, after))
			}
			var got, want api.Errno
			switch d.below(10) {
			case 0, 1:
				got, want = l.Ready(), k.ready()
			case 2:
				got, want = l.Turn(), k.turn()
			case 3: // damage, beside the log
				name, s := slowName(k.file+d.below(3)-1), oneOf(&d, "torn", "\x00", chain(1), full, framed(api.Rec{}))
				got, want = f.Append(name, []byte(s)), g.Append(name, []byte(s))
			default:
				r := d.rec()
				if d.below(3) == 0 {
					r.Row.Labels = []api.Label{{Name: "a", Value: strings.Repeat("v", oneOf(&d, 1000, 2000, 3000))}}
				}
				if d.below(100) == 0 {
					r = api.Rec{Kind: api.RecWrite, Row: api.Row{Labels: []api.Label{{Name: "a", Value: strings.Repeat("v", api.MaxBody)}}}}
				}
				got, want = l.Append(r), k.append(r)
			}
			if got != want || l.Last() != k.file {
				t.Fatalf("seed %d: it answers %v, not %v, with file %d, not %d", seed, got, want, l.Last(), k.file)
			}
			alike(t, f, g)
			if d.below(8) == 0 {
				ops, picks := d.below(4), []int{d.below(100), d.below(5000)}[:d.below(3)]
				f, g = f.Crash(ops, picks), g.Crash(ops, picks)
				from += oneOf(&d, 0, 0, 0, 0, 0, 0, 0, 1)
			} else if d.below(8) > 0 {
				continue // with the same log
			}
			if l, k = both(t, f, g, from); l == nil {
				break
			}
			opened++
		}
	}
	if opened < 1000 {
		t.Errorf("%d are opened", opened)
	}
}
