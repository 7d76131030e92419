package vfs_test

import (
	"slices"
	"strings"
	"testing"

	"varve/api"
	"varve/vfs"
)

// draws is a row of numbers that look drawn, the same ones in each run.
type draws uint64

func (d *draws) below(n int) int {
	*d = *d*6364136223846793005 + 1442695040888963407
	return int(uint64(*d>>33) % uint64(n))
}

// oneOf is one of a list.
func oneOf[T any](d *draws, l ...T) T { return l[d.below(len(l))] }

// call is one of the seven calls.
type call struct {
	what     string
	name, to string
	b        string
	size     int
}

// do asks it of a file system.
func (c call) do(f *vfs.FS) api.Errno {
	switch c.what {
	case "create":
		return f.Create(c.name)
	case "append":
		return f.Append(c.name, []byte(c.b))
	case "cut":
		return f.Cut(c.name, c.size)
	case "sync":
		return f.Sync(c.name)
	case "rename":
		return f.Rename(c.name, c.to)
	case "remove":
		return f.Remove(c.name)
	}
	return f.SyncDir()
}

// unit is a byte that was appended, or a cut.
type unit struct {
	cuts bool
	size int
	b    byte
}

// slowFile keeps its units one by one.
type slowFile struct {
	born    int
	certain []byte
	pending []unit
}

// with are the certain bytes with so many units done.
func (f *slowFile) with(p int) []byte {
	out := slices.Clone(f.certain)
	for _, u := range f.pending[:between(p, len(f.pending))] {
		if u.cuts {
			out = out[:u.size]
		} else {
			out = append(out, u.b)
		}
	}
	return out
}

func (f *slowFile) now() []byte { return f.with(len(f.pending)) }

func (f *slowFile) take(b string) {
	for i := range len(b) {
		f.pending = append(f.pending, unit{b: b[i]})
	}
}

// between is p, cut to from 0 to most.
func between(p, most int) int {
	if p < 0 {
		return 0
	}
	if p > most {
		return most
	}
	return p
}

// slowTurn is a name that a file has from then on, one that is gone, or both; file is of a new one.
type slowTurn struct {
	gone, given string
	file        *slowFile
}

// slow is a file system by the chapter's words: what is to be seen is told anew each time.
type slow struct {
	certain map[string]*slowFile
	pending []slowTurn
	born    int
	calls   int
	armed   bool
	kind    api.Errno
	after   int
	dark    bool
}

func newSlow() *slow { return &slow{certain: map[string]*slowFile{}} }

// with is the directory with so many turns done.
func (s *slow) with(ops int) map[string]*slowFile {
	out := map[string]*slowFile{}
	for name, f := range s.certain {
		out[name] = f
	}
	for _, t := range s.pending[:between(ops, len(s.pending))] {
		f := t.file
		if f == nil {
			f = out[t.gone]
		}
		if t.gone != "" {
			delete(out, t.gone)
		}
		if t.given != "" {
			out[t.given] = f
		}
	}
	return out
}

func (s *slow) now() map[string]*slowFile { return s.with(len(s.pending)) }

// do is what a call answers, in the chapter's order.
func (s *slow) do(c call) api.Errno {
	s.calls++
	names := s.now()
	f := names[c.name]
	if s.dark {
		return api.ErrIO
	}
	if s.armed && s.after == 0 {
		return s.fail(c, f)
	}
	s.after--
	if c.what != "dir" && !nameMayBe(c.name) || c.what == "rename" && !nameMayBe(c.to) {
		return api.ErrArg
	}
	if c.what != "dir" && c.what != "create" && f == nil {
		return api.ErrNone
	}
	if c.what == "cut" && (c.size < 0 || c.size > len(f.now())) {
		return api.ErrArg
	}
	if c.what == "create" && f == nil && len(names) == api.MaxFiles {
		return api.ErrFull
	}
	s.carry(c, f)
	return api.OK
}

func nameMayBe(name string) bool { return name != "" && len(name) < 65 }

func (s *slow) fail(c call, f *slowFile) api.Errno {
	if c.what == "append" && f != nil {
		f.take(c.b[:len(c.b)/2])
	}
	s.armed = false
	if s.kind == api.OK {
		s.dark = true
		return api.ErrIO
	}
	return s.kind
}

// carry does a call that is not refused.
func (s *slow) carry(c call, f *slowFile) {
	switch c.what {
	case "create":
		s.pending = append(s.pending, slowTurn{given: c.name, file: &slowFile{born: s.born}})
		s.born++
	case "append":
		f.take(c.b)
	case "cut":
		f.pending = append(f.pending, unit{cuts: true, size: c.size})
	case "sync":
		f.certain, f.pending = f.now(), nil
	case "rename":
		s.pending = append(s.pending, slowTurn{gone: c.name, given: c.to})
	case "remove":
		s.pending = append(s.pending, slowTurn{gone: c.name})
	case "dir":
		s.certain, s.pending = s.now(), nil
	}
}

func (s *slow) arm(kind api.Errno, after int) {
	s.armed, s.kind, s.after = true, kind, after
}

func (s *slow) crash(ops int, picks []int) *slow {
	names := s.with(ops)
	out := newSlow()
	for ; len(names) > 0; out.born++ {
		first := ""
		for name, f := range names {
			if first == "" || f.born < names[first].born {
				first = name
			}
		}
		p := 0
		if len(picks) > 0 {
			p = picks[out.born%len(picks)]
		}
		out.certain[first] = &slowFile{born: out.born, certain: names[first].with(p)}
		delete(names, first)
	}
	return out
}

// longest is a name of as many bytes as may be.
var longest = strings.Repeat("n", 64)

// names are those that scripts are about; the wrong ones are last.
var names = []string{"a", "b", "c", "d\x00\xff", longest, "", longest + "n"}

// drawCall is any of the seven, of a few names, so that they often meet.
func drawCall(d *draws) call {
	c := call{what: oneOf(d, "create", "append", "append", "append", "cut", "cut", "sync", "rename", "remove", "dir")}
	c.name, c.to = oneOf(d, "a", "b", "c"), oneOf(d, "a", "b", "c")
	if d.below(12) == 0 {
		c.name = oneOf(d, names...)
	}
	if d.below(12) == 0 {
		c.to = oneOf(d, names...)
	}
	for range d.below(6) {
		c.b += string([]byte{byte(d.below(256))})
	}
	c.size = d.below(9) - 1
	return c
}

// drawPicks are up to three, some out of bounds.
func drawPicks(d *draws) []int {
	var out []int
	for range d.below(4) {
		out = append(out, d.below(14)-2)
	}
	return out
}

// agree checks all that is to be seen of both.
func agree(t *testing.T, f *vfs.FS, s *slow) {
	t.Helper()
	held := s.now()
	var list []string
	for name := range held {
		list = append(list, name)
	}
	slices.Sort(list)
	if got := f.List(); !slices.Equal(got, list) {
		t.Fatalf("List is %q, not %q", got, list)
	}
	for _, name := range names {
		b, e := f.Read(name)
		if one, ok := held[name]; !ok && (b != nil || e != api.ErrNone) || ok && (string(b) != string(one.now()) || e != api.OK) {
			t.Fatalf("Read(%q) is %q, %v", name, b, e)
		}
	}
	if f.Calls() != s.calls {
		t.Fatalf("Calls is %d, not %d", f.Calls(), s.calls)
	}
}

// crashesAgree checks what crashes leave: after each number of turns, by some picks.
func crashesAgree(t *testing.T, d *draws, f *vfs.FS, s *slow) {
	t.Helper()
	for ops := -1; ops <= len(s.pending)+1; ops++ {
		picks := drawPicks(d)
		kept := append(slices.Clone(picks), 5, 6)
		agree(t, f.Crash(ops, kept[:len(picks)]), s.crash(ops, picks))
		if !slices.Equal(kept, append(slices.Clone(picks), 5, 6)) {
			t.Fatalf("picks became %v", kept)
		}
	}
	agree(t, f, s)
}

// P16.1 to P16.4: drawn scripts, with faults and crashes behind crashes, each call held against the chapter's words.
func TestScripts(t *testing.T) {
	for seed := range 1500 {
		d := draws(seed)
		f, s := vfs.New(), newSlow()
		for range 20 + d.below(60) {
			if d.below(16) == 0 {
				kind, after := oneOf(&d, api.OK, api.ErrSpace, api.ErrSpace, api.ErrIO, api.ErrIO), d.below(4)
				s.arm(kind, after)
				if e := f.Arm(kind, after); e != api.OK {
					t.Fatalf("Arm(%v, %d) is %v", kind, after, e)
				}
			}
			c := drawCall(&d)
			if got, want := c.do(f), s.do(c); got != want {
				t.Fatalf("seed %d: %#v is %v, not %v", seed, c, got, want)
			}
			agree(t, f, s)
			if d.below(20) == 0 {
				crashesAgree(t, &d, f, s)
			}
			if d.below(30) == 0 || s.dark && d.below(3) == 0 {
				ops, picks := d.below(len(s.pending)+1), drawPicks(&d)
				f, s = f.Crash(ops, picks), s.crash(ops, picks)
			}
		}
		crashesAgree(t, &d, f, s)
	}
}
