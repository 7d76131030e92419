package vfs_test

import (
	"math"
	"slices"
	"strings"
	"testing"

	"varve/api"
	"varve/vfs"
)

// P16.4: turns are done one by one; their number is cut.
func TestCrashTurns(t *testing.T) {
	f := laid(t, "a", "1", "b", "2")
	must(t, f.Rename("a", "c"), f.Create("a"), f.Rename("c", "b"), f.Rename("b", "b"), f.Remove("a"), f.Create("b"))
	for ops, want := range [][]string{{"a", "1", "b", "2"}, {"b", "2", "c", "1"}, {"a", "", "b", "2", "c", "1"}, {"a", "", "b", "1"}, {"a", "", "b", "1"}, {"b", "1"}, {"b", ""}} {
		has(t, f.Crash(ops, nil), want...)
	}
	for _, ops := range []int{-1, math.MinInt} {
		has(t, f.Crash(ops, nil), "a", "1", "b", "2")
	}
	for _, ops := range []int{7, math.MaxInt} {
		has(t, f.Crash(ops, nil), "b", "")
	}
	must(t, f.SyncDir())
	for _, ops := range []int{-1, 0, 1, 9} {
		has(t, f.Crash(ops, nil), "b", "")
	}
	must(t, f.Create("d"))
	has(t, f.Crash(0, nil), "b", "")
	has(t, f.Crash(1, nil), "b", "", "d", "")
}

// P16.4: units are bytes and cuts, one by one; their number is cut.
func TestCrashUnits(t *testing.T) {
	f := laid(t, "a", "12")
	must(t, f.Append("a", []byte("34")), f.Append("a", nil), f.Append("a", []byte("5")), f.Cut("a", 1), f.Append("a", []byte("xyz")), f.Cut("a", 4), f.Cut("a", 0), f.Append("a", []byte("q")))
	at := []string{"12", "123", "1234", "12345", "1", "1x", "1xy", "1xyz", "1xyz", "", "q"}
	for p, want := range at {
		has(t, f.Crash(0, []int{p}), "a", want)
	}
	for _, p := range []int{-1, math.MinInt} {
		has(t, f.Crash(0, []int{p}), "a", "12")
	}
	for _, p := range []int{len(at), math.MaxInt} {
		has(t, f.Crash(0, []int{p}), "a", "q")
	}
	must(t, f.Sync("a"))
	for p := range 4 {
		has(t, f.Crash(0, []int{p}), "a", "q")
	}
	must(t, f.Append("a", []byte("r")))
	has(t, f.Crash(0, []int{0}), "a", "q")
	has(t, f.Crash(0, []int{1}), "a", "qr")
}

// P16.4: picks go by the order in which files were created, of those that have a name there, over and over.
func TestCrashPicks(t *testing.T) {
	f := vfs.New()
	for _, name := range []string{"d", "b", "a", "c"} {
		must(t, f.Create(name), f.Append(name, []byte("123456789")))
	}
	has(t, f.Crash(4, nil), "a", "", "b", "", "c", "", "d", "")
	has(t, f.Crash(4, []int{}), "a", "", "b", "", "c", "", "d", "")
	has(t, f.Crash(4, []int{2}), "a", "12", "b", "12", "c", "12", "d", "12")
	has(t, f.Crash(4, []int{1, 2}), "a", "1", "b", "12", "c", "12", "d", "1")
	has(t, f.Crash(4, []int{1, 2, 3}), "a", "123", "b", "12", "c", "1", "d", "1")
	has(t, f.Crash(4, []int{1, 2, 3, 4, 5}), "a", "123", "b", "12", "c", "1234", "d", "1")
	has(t, f.Crash(4, []int{-1, 99, 0, 4}), "a", "", "b", "123456789", "c", "1234", "d", "")
	// A file's place goes by when it was created, not by when it was named; those without a name have none.
	must(t, f.Rename("d", "z"), f.Remove("b"), f.Create("b"), f.Append("b", []byte("xyz")))
	has(t, f.Crash(9, []int{1, 2, 3, 4}), "a", "12", "b", "xyz", "c", "123", "z", "1")
	has(t, f.Crash(6, []int{1, 2, 3, 4}), "a", "12", "c", "123", "z", "1")
	has(t, f.Crash(5, []int{1, 2, 3, 4}), "a", "123", "b", "12", "c", "1234", "z", "1")
	// A new file of a name that is there comes last.
	must(t, f.Create("z"), f.Append("z", []byte("pqrst")))
	has(t, f.Crash(9, []int{1, 2, 3, 4}), "a", "1", "b", "xyz", "c", "12", "z", "pqrs")
}

// P16.4: a crash keeps the order, Laid is told in it, files that come then are behind.
func TestCrashKeepsOrder(t *testing.T) {
	f := laid(t, "c", "", "a", "", "b", "")
	more := func(f *vfs.FS, names ...string) {
		for _, name := range names {
			must(t, f.Append(name, []byte("12345")))
		}
	}
	more(f, "a", "b", "c")
	has(t, f.Crash(0, []int{1, 2, 3}), "a", "12", "b", "123", "c", "1")
	x := f.Crash(0, nil)
	must(t, x.Create("0"), x.Rename("a", "z"))
	more(x, "0", "z", "b", "c")
	has(t, x.Crash(2, []int{1, 2, 3, 4}), "0", "1234", "b", "123", "c", "1", "z", "12")
	x = x.Crash(2, nil).Crash(0, []int{7})
	must(t, x.Create("00"))
	more(x, "00", "0", "z", "b", "c")
	has(t, x.Crash(1, []int{1, 2, 3, 4, 5}), "0", "1234", "00", "12345", "b", "123", "c", "1", "z", "12")
	has(t, x.Crash(0, []int{1, 2, 3, 4, 5}), "0", "1234", "b", "123", "c", "1", "z", "12")
}

// P16.4: what is left is all certain, not armed, without calls; the old one stays as it is.
func TestCrashLeavesAnother(t *testing.T) {
	f := laid(t, "a", "1")
	must(t, f.Append("a", []byte("23")), f.Create("b"), f.Arm(api.ErrSpace, 1))
	x := f.Crash(1, []int{1})
	if x.Calls() != 0 || f.Calls() != 2 {
		t.Error("Calls are", x.Calls(), f.Calls())
	}
	has(t, x.Crash(0, nil), "a", "12", "b", "")
	must(t, x.SyncDir(), x.SyncDir(), x.SyncDir(), x.Append("a", []byte("x")), x.Append("b", []byte("y")), x.Cut("a", 1), x.Append("a", []byte("zzz")), x.Remove("b"), x.Arm(api.OK, 0))
	if x.SyncDir() != api.ErrIO {
		t.Error("the power does not go")
	}
	has(t, f, "a", "123", "b", "")
	has(t, f.Crash(0, nil), "a", "1")
	must(t, f.Append("a", []byte("4")))
	if f.Append("b", []byte("56")) != api.ErrSpace || f.Calls() != 4 {
		t.Error("what is armed did not stay:", f.Calls())
	}
	has(t, f, "a", "1234", "b", "5")
	has(t, f.Crash(1, []int{2}), "a", "123", "b", "5")
	must(t, f.Append("a", []byte("6")))
	has(t, x, "a", "1zzz")
}

// P16.4: a file that was synced by another name is certain under each name that it may have.
func TestSyncGoesWithTheFile(t *testing.T) {
	f := vfs.New()
	must(t, f.Create("a"), f.SyncDir(), f.Append("a", []byte("12")), f.Rename("a", "b"), f.Sync("b"))
	has(t, f.Crash(0, nil), "a", "12")
	has(t, f.Crash(1, nil), "b", "12")
	must(t, f.Remove("b"), f.Create("a"), f.Append("a", []byte("3")), f.Sync("a"))
	has(t, f.Crash(0, nil), "a", "12")
	has(t, f.Crash(1, nil), "b", "12")
	has(t, f.Crash(2, nil))
	has(t, f.Crash(3, nil), "a", "3")
}

// P16.5: names and bytes that were synced are there behind each crash, as long as nothing takes them away.
func TestSyncedIsKept(t *testing.T) {
	for seed := range 300 {
		d := draws(seed)
		f := vfs.New()
		named, synced := map[string]bool{}, map[string]string{}
		for range 40 {
			name := oneOf(&d, "a", "b", "c", "d")
			switch d.below(6) {
			case 0:
				if read(f, name) == "none" {
					must(t, f.Create(name))
				}
			case 1, 2:
				f.Append(name, []byte(strings.Repeat(name, d.below(4))+"."))
			case 3:
				if f.Sync(name) == api.OK {
					synced[name] = read(f, name)
				}
			case 4:
				must(t, f.SyncDir())
				for _, name := range f.List() {
					named[name] = true
				}
			}
			for ops := range 5 {
				x := f.Crash(ops, drawPicks(&d))
				for name := range named {
					if got := read(x, name); got == "none" || !strings.HasPrefix(got, synced[name]) {
						t.Fatalf("%q is %q, not %q", name, got, synced[name])
					}
				}
			}
		}
	}
}

// R3: lists that are handed in are neither changed nor kept, spare room included.
func TestHandedInIsNotKept(t *testing.T) {
	names, data := []string{"a", "b", "spare"}, [][]byte{[]byte("12xx"), []byte("3x"), []byte("spare")}
	data[0] = data[0][:2]
	data[1] = data[1][:1]
	f, e := vfs.Laid(names[:2], data[:2])
	must(t, e)
	b := []byte("45xx")
	must(t, f.Append("a", b[:2]), f.Append("a", []byte("6")), f.Append("b", b[:2]), f.Create("c"), f.Append("c", b[:2]), f.Append("c", []byte("7")))
	if string(b) != "45xx" || string(data[0][:4]) != "12xx" || string(data[1][:2]) != "3x" || string(data[2]) != "spare" || !slices.Equal(names, []string{"a", "b", "spare"}) {
		t.Error("they became", b, data, names)
	}
	for _, l := range append(data, b) {
		clear(l[:cap(l)])
	}
	clear(names)
	clear(data)
	has(t, f, "a", "12456", "b", "345", "c", "457")
	has(t, f.Crash(9, []int{2}), "a", "1245", "b", "345", "c", "45")
	has(t, f.Crash(0, nil), "a", "12", "b", "3")
}

// R3: what is answered is new memory, spare room too.
func TestAnswersAreNewMemory(t *testing.T) {
	f := laid(t, "a", "12", "b", "3")
	must(t, f.Append("a", []byte("4567")), f.Cut("a", 4), f.Append("b", []byte("8")))
	look := func() {
		for range 2 {
			b, _ := f.Read("a")
			clear(b[:cap(b)])
			l := f.List()
			clear(l[:cap(l)])
			x := f.Crash(0, []int{9})
			must(t, x.Cut("a", 0), x.Append("a", []byte("------------")), x.Cut("b", 1), x.Append("b", []byte("---")))
		}
	}
	look()
	has(t, f, "a", "1245", "b", "38")
	must(t, f.Append("a", []byte("9")))
	b, _ := f.Read("a")
	l := f.List()
	x := f.Crash(0, []int{9})
	look()
	must(t, f.Cut("a", 0), f.Append("a", []byte("------")), f.Remove("a"))
	if string(b) != "12459" || !slices.Equal(l, []string{"a", "b"}) {
		t.Errorf("they became %q, %q", b, l)
	}
	has(t, x, "a", "12459", "b", "38")
	for p, want := range []string{"12", "124", "1245", "12456", "124567", "1245", "12459", "", "-"} {
		has(t, f.Crash(0, []int{p, 0}), "a", want, "b", "3")
	}
}

// R4: two that are made of the same have nothing in common.
func TestTwoHaveNothingInCommon(t *testing.T) {
	data := [][]byte{[]byte("1")}
	f, _ := vfs.Laid([]string{"a"}, data)
	g, _ := vfs.Laid([]string{"a"}, data)
	must(t, f.Append("a", []byte("2")), f.Create("b"), f.Sync("a"), f.SyncDir(), f.Arm(api.OK, 0))
	if f.SyncDir() != api.ErrIO || g.SyncDir() != api.OK || g.Calls() != 1 {
		t.Error("faults or calls are in common")
	}
	has(t, g, "a", "1")
	has(t, g.Crash(9, nil), "a", "1")
	has(t, vfs.New())
}

// P16.2, P16.4: many calls on one file take no longer than its bytes ask for.
func TestManyCalls(t *testing.T) {
	f := laid(t, "a", "")
	const n = 200000
	for i := range n {
		must(t, f.Append("a", []byte{byte(i), 'x'}), f.Sync("a"), f.Cut("a", i+1), f.SyncDir())
	}
	b, _ := f.Crash(0, []int{1}).Read("a")
	if len(b) != n || b[n-1] != byte((n-1)%256) || f.Calls() != 4*n {
		t.Error("they are", len(b), f.Calls())
	}
	must(t, f.Sync("a"))
	for range n {
		must(t, f.Append("a", []byte("12")), f.Cut("a", n+1), f.Cut("a", n))
	}
	for p, want := range []int{n, n + 1, n + 2, n + 1, n, n + 1} {
		if b, _ := f.Crash(0, []int{p}).Read("a"); len(b) != want {
			t.Error("with", p, "units there are", len(b), "bytes")
		}
	}
}
