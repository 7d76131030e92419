package vfs_test

import (
	"math"
	"slices"
	"strconv"
	"strings"
	"testing"

	"varve/api"
	"varve/vfs"
)

// read is a file's bytes, or "none".
func read(f *vfs.FS, name string) string {
	b, e := f.Read(name)
	if e == api.ErrNone && b == nil {
		return "none"
	}
	if e != api.OK {
		return "Read answers " + e.Error()
	}
	return string(b)
}

// must checks that calls answer OK.
func must(t *testing.T, errors ...api.Errno) {
	t.Helper()
	for i, e := range errors {
		if e != api.OK {
			t.Fatalf("call %d answers %v", i, e)
		}
	}
}

// has checks what a directory has: names and bytes, one behind the other, by names.
func has(t *testing.T, f *vfs.FS, want ...string) {
	t.Helper()
	var got []string
	for _, name := range f.List() {
		got = append(got, name, read(f, name))
	}
	if !slices.Equal(got, want) {
		t.Errorf("it has %q, not %q", got, want)
	}
}

func laid(t *testing.T, namesAndBytes ...string) *vfs.FS {
	t.Helper()
	var names []string
	var data [][]byte
	for i := 0; i < len(namesAndBytes); i += 2 {
		names = append(names, namesAndBytes[i])
		data = append(data, []byte(namesAndBytes[i+1]))
	}
	f, e := vfs.Laid(names, data)
	if e != api.OK {
		t.Fatal("Laid answers", e)
	}
	return f
}

// The chapter's examples.
func TestExamples(t *testing.T) {
	f := vfs.New()
	must(t, f.Create("a"), f.Append("a", []byte("xy")))
	has(t, f.Crash(1, []int{1}), "a", "x")
	has(t, f.Crash(0, []int{9}))
	has(t, f, "a", "xy")
}

// P16.1: a new one, names by bytes, what is not there.
func TestReadAndList(t *testing.T) {
	f := vfs.New()
	if len(f.List()) != 0 || f.Calls() != 0 {
		t.Error("a new one has", f.List(), f.Calls())
	}
	for _, name := range []string{"b", "a", "\xff", "B", "aa", "\x00", "a\x00", longest} {
		must(t, f.Create(name))
	}
	if got, want := f.List(), []string{"\x00", "B", "a", "a\x00", "aa", "b", longest, "\xff"}; !slices.Equal(got, want) {
		t.Errorf("List is %q, not %q", got, want)
	}
	for _, name := range []string{"", "c", "A", longest + "n", strings.Repeat("n", 100000)} {
		if b, e := f.Read(name); b != nil || e != api.ErrNone {
			t.Errorf("Read of none is %q, %v", b, e)
		}
	}
	if b, e := f.Read("a"); len(b) != 0 || e != api.OK {
		t.Errorf("Read of an empty one is %q, %v", b, e)
	}
	if f.Calls() != 8 {
		t.Error("Read and List are no calls, but there were", f.Calls())
	}
}

// P16.1: the two never fail, whatever is armed or went wrong.
func TestReadAndListNeverFail(t *testing.T) {
	for _, kind := range []api.Errno{api.OK, api.ErrSpace, api.ErrIO} {
		f := laid(t, "a", "1")
		must(t, f.Arm(kind, 0))
		has(t, f, "a", "1")
		if f.SyncDir() == api.OK {
			t.Fatal("SyncDir did not fail")
		}
		has(t, f, "a", "1")
	}
}

// P16.1: as many files, all certain.
func TestLaid(t *testing.T) {
	f := laid(t, "b", "1", "a", "", longest, "22")
	has(t, f, "a", "", "b", "1", longest, "22")
	has(t, f.Crash(0, nil), "a", "", "b", "1", longest, "22")
	has(t, f.Crash(9, []int{-9, 9}), "a", "", "b", "1", longest, "22")
	if f.Calls() != 0 {
		t.Error("Calls is", f.Calls())
	}
	must(t, f.Append("b", []byte("3")), f.Remove("a"))
	has(t, f, "b", "13", longest, "22")
	has(t, f.Crash(0, nil), "a", "", "b", "1", longest, "22")
	has(t, laid(t))
}

// P16.1: ErrArg of lists that are not as long, names that may not be, names that are twice; ErrFull; ErrArg comes first.
func TestLaidRefused(t *testing.T) {
	many := func(n int, more ...string) []string {
		var out []string
		for i := range n {
			out = append(out, strconv.Itoa(i))
		}
		return append(out, more...)
	}
	for i, x := range []struct {
		names []string
		data  int
		want  api.Errno
	}{
		{nil, 1, api.ErrArg}, {many(1), 0, api.ErrArg}, {many(3), 2, api.ErrArg}, {many(2), 3, api.ErrArg},
		{many(1, ""), 2, api.ErrArg}, {many(1, longest), 2, api.OK}, {many(1, longest+"n"), 2, api.ErrArg}, {many(2, "0"), 3, api.ErrArg}, {many(2, "1"), 3, api.ErrArg},
		{many(api.MaxFiles), api.MaxFiles, api.OK}, {many(api.MaxFiles + 1), api.MaxFiles + 1, api.ErrFull}, {many(api.MaxFiles + 1), api.MaxFiles, api.ErrArg},
		{many(api.MaxFiles+1, ""), api.MaxFiles + 2, api.ErrArg}, {many(api.MaxFiles+1, "7"), api.MaxFiles + 2, api.ErrArg}, {many(5 * api.MaxFiles), 5 * api.MaxFiles, api.ErrFull},
	} {
		f, e := vfs.Laid(x.names, make([][]byte, x.data))
		if e != x.want || (f == nil) != (e != api.OK) {
			t.Errorf("Laid %d answers %v, not %v", i, e, x.want)
		}
		if e == api.OK && len(f.List()) != len(x.names) {
			t.Errorf("Laid %d has %d files", i, len(f.List()))
		}
	}
}

// P16.2: the errors, in their order; what is refused changes nothing but how many calls there were.
func TestRefused(t *testing.T) {
	f := laid(t, "a", "12", "b", "3")
	wrong := []string{"", longest + "n", strings.Repeat("n", 1000)}
	var calls []call
	for _, name := range wrong {
		for _, what := range []string{"create", "append", "cut", "sync", "remove"} {
			calls = append(calls, call{what: what, name: name, b: "4", size: 99})
		}
		calls = append(calls, call{what: "rename", name: name, to: "c"}, call{what: "rename", name: "a", to: name}, call{what: "rename", name: "c", to: name}, call{what: "rename", name: name, to: name})
	}
	n := 0
	for _, c := range calls {
		if e := c.do(f); e != api.ErrArg {
			t.Errorf("%+v is %v", c, e)
		}
		n++
	}
	for _, c := range []call{{what: "append", name: "c"}, {what: "append", name: "A", b: "4"}, {what: "cut", name: "c"}, {what: "cut", name: "c", size: -1}, {what: "sync", name: "c"}, {what: "rename", name: "c", to: "a"}, {what: "rename", name: "c", to: "c"}, {what: "remove", name: longest}} {
		if e := c.do(f); e != api.ErrNone {
			t.Errorf("%+v is %v", c, e)
		}
		n++
	}
	for _, size := range []int{3, -1, 1000, math.MaxInt, math.MinInt} {
		if e := f.Cut("a", size); e != api.ErrArg {
			t.Errorf("Cut to %d is %v", size, e)
		}
		n++
	}
	if f.Calls() != n {
		t.Errorf("Calls is %d, not %d", f.Calls(), n)
	}
	for ops := range 3 {
		has(t, f.Crash(ops, []int{99}), "a", "12", "b", "3")
	}
	has(t, f, "a", "12", "b", "3")
}

// P16.2: what each call does to what is to be seen.
func TestCalls(t *testing.T) {
	f := vfs.New()
	must(t, f.Create("a"), f.Append("a", []byte("12")), f.Append("a", nil), f.Append("a", []byte("345")))
	has(t, f, "a", "12345")
	must(t, f.Cut("a", 5))
	has(t, f, "a", "12345")
	must(t, f.Cut("a", 3), f.Append("a", []byte("x")))
	has(t, f, "a", "123x")
	must(t, f.Cut("a", 0))
	has(t, f, "a", "")
	must(t, f.Append("a", []byte("6")), f.Sync("a"), f.SyncDir(), f.Create(longest), f.Create("b"))
	has(t, f, "a", "6", "b", "", longest, "")
	must(t, f.Rename("a", "b"))
	has(t, f, "b", "6", longest, "")
	must(t, f.Create("a"), f.Append("a", []byte("7")), f.Create("b"))
	has(t, f, "a", "7", "b", "", longest, "")
	must(t, f.Remove("b"), f.Remove(longest))
	has(t, f, "a", "7")
	if f.Calls() != 19 {
		t.Error("Calls is", f.Calls())
	}
}

// P16.2: there are at most MaxFiles files; a name that is there already may be given anew, one that went leaves room.
func TestMaxFiles(t *testing.T) {
	f := vfs.New()
	for i := range api.MaxFiles {
		must(t, f.Create(strconv.Itoa(i)))
	}
	if f.Create("a") != api.ErrFull || f.Create("") != api.ErrArg || f.Create("b") != api.ErrFull || len(f.List()) != api.MaxFiles {
		t.Error("more than MaxFiles:", len(f.List()))
	}
	must(t, f.Append("7", []byte("x")), f.Create("7"), f.Rename("8", "a"))
	if read(f, "7") != "" || read(f, "8") != "none" || read(f, "a") != "" || f.Create("8") != api.ErrFull {
		t.Error("with MaxFiles files")
	}
	must(t, f.Remove("a"), f.Create("8"))
	if f.Create("a") != api.ErrFull {
		t.Error("more than MaxFiles behind Remove")
	}
	must(t, f.Rename("8", "9"), f.Create("a"))
	if f.Create("8") != api.ErrFull {
		t.Error("more than MaxFiles behind Rename")
	}
	x := f.Crash(api.MaxFiles, nil)
	if len(x.List()) != api.MaxFiles || x.Create("a") != api.ErrFull || x.Create("7") != api.OK {
		t.Error("behind a crash:", len(x.List()))
	}
}

// P16.1 to P16.3: a file has at most MaxFile bytes, at once, one behind the other, or by a half.
func TestMaxFile(t *testing.T) {
	big := make([]byte, api.MaxFile+1)
	if f, e := vfs.Laid([]string{"a", "b"}, [][]byte{nil, big}); f != nil || e != api.ErrFull {
		t.Error("Laid of more than MaxFile bytes is", e)
	}
	if f, e := vfs.Laid([]string{"a", "a"}, [][]byte{big, nil}); f != nil || e != api.ErrArg {
		t.Error("Laid of more than MaxFile bytes and a name twice is", e)
	}
	f, e := vfs.Laid([]string{"a"}, [][]byte{big[:api.MaxFile]})
	must(t, e, f.Append("a", nil), f.Cut("a", api.MaxFile), f.Create("b"))
	if f.Append("a", big[:1]) != api.ErrFull {
		t.Error("Append behind MaxFile bytes")
	}
	must(t, f.Cut("a", api.MaxFile-1))
	if f.Append("b", big) != api.ErrFull || f.Append("a", big) != api.ErrFull || f.Append("a", big[:2]) != api.ErrFull || f.Append("c", big) != api.ErrNone {
		t.Error("Append of more than MaxFile bytes")
	}
	must(t, f.Arm(api.ErrSpace, 0))
	if f.Append("a", big[:4]) != api.ErrSpace || f.Cut("a", api.MaxFile) != api.ErrArg {
		t.Error("a half that is too much was done")
	}
	must(t, f.Arm(api.ErrSpace, 0))
	if f.Append("a", big[:3]) != api.ErrSpace || f.Append("a", big[:1]) != api.ErrFull {
		t.Error("a half that has room was not done")
	}
	must(t, f.Append("a", nil), f.Cut("a", api.MaxFile), f.Cut("a", api.MaxFile-1), f.Append("a", big[:1]))
	if f.Append("a", big[:1]) != api.ErrFull {
		t.Error("Append of more than MaxFile bytes behind a cut")
	}
}

// P16.3: what may not be armed; it turns nothing of what was.
func TestArmRefused(t *testing.T) {
	f := laid(t, "a", "")
	must(t, f.Arm(api.ErrSpace, 1))
	for kind := api.Errno(-1); kind < 22; kind++ {
		for _, after := range []int{math.MinInt, -1, 0, 5} {
			may := after >= 0 && (kind == api.OK || kind == api.ErrSpace || kind == api.ErrIO)
			if !may && f.Arm(kind, after) != api.ErrArg {
				t.Errorf("Arm(%d, %d) is not refused", kind, after)
			}
		}
	}
	if f.Arm(math.MaxInt, 0) != api.ErrArg || f.Arm(math.MinInt, 0) != api.ErrArg {
		t.Error("Arm of no kind is not refused")
	}
	if f.Calls() != 0 || f.Sync("a") != api.OK || f.Sync("a") != api.ErrSpace || f.Sync("a") != api.OK {
		t.Error("what was armed did not stay")
	}
}

// seven are all calls, such as would answer OK where a is there.
func seven() []call {
	return []call{{what: "create", name: "b"}, {what: "append", name: "a", b: "345"}, {what: "cut", name: "a", size: 1}, {what: "sync", name: "a"}, {what: "rename", name: "a", to: "b"}, {what: "remove", name: "a"}, {what: "dir"}}
}

// P16.3: the call behind so many more fails, once; an Append does its half, the others nothing.
func TestFails(t *testing.T) {
	for _, kind := range []api.Errno{api.ErrSpace, api.ErrIO} {
		for _, after := range []int{0, 1, 2, 9} {
			for _, c := range seven() {
				f := laid(t, "a", "1")
				must(t, f.Append("a", []byte("2")), f.Arm(kind, after))
				if after > 0 {
					// What is armed anew begins to count anew.
					must(t, f.Sync("a"), f.Arm(kind, after))
				}
				for range after {
					must(t, f.Append("a", nil))
				}
				if e := c.do(f); e != kind {
					t.Errorf("%+v is %v, not %v", c, e, kind)
				}
				bytes := "12"
				if c.what == "append" {
					bytes = "123"
				}
				has(t, f, "a", bytes)
				for ops := range 2 {
					has(t, f.Crash(ops, []int{9}), "a", bytes)
				}
				if after == 0 { // then nothing was synced
					has(t, f.Crash(9, nil), "a", "1")
				}
				if e := c.do(f); e != api.OK {
					t.Errorf("%+v is %v behind the fault", c, e)
				}
			}
		}
	}
}

// P16.3: to fail comes ahead of all other errors; refused calls and failed ones count.
func TestFailsFirst(t *testing.T) {
	f := laid(t, "a", "1")
	for _, c := range []call{{what: "create"}, {what: "append", b: "22"}, {what: "append", name: "b", b: "22"}, {what: "cut", name: "a", size: 9}, {what: "sync", name: "b"}, {what: "rename", name: "a"}, {what: "remove", name: "b"}} {
		must(t, f.Arm(api.ErrSpace, 0))
		if e := c.do(f); e != api.ErrSpace {
			t.Errorf("%+v is %v", c, e)
		}
	}
	has(t, f, "a", "1")
	must(t, f.Arm(api.ErrIO, 2))
	if f.Create("") != api.ErrArg || f.Remove("b") != api.ErrNone || f.SyncDir() != api.ErrIO || f.SyncDir() != api.OK {
		t.Error("refused calls do not count")
	}
	if f.Calls() != 11 {
		t.Error("Calls is", f.Calls())
	}
	for i := range api.MaxFiles - 1 {
		must(t, f.Create(strconv.Itoa(i)))
	}
	must(t, f.Arm(api.ErrSpace, 0))
	if f.Create("b") != api.ErrSpace || f.Create("b") != api.ErrFull {
		t.Error("to fail does not come ahead of ErrFull")
	}
}

// P16.3: the half is rounded down.
func TestHalf(t *testing.T) {
	for n := range 10 {
		b := []byte("123456789")[:n]
		f := laid(t, "a", "x")
		must(t, f.Arm(api.ErrIO, 0))
		if f.Append("a", b) != api.ErrIO || read(f, "a") != "x"+string(b[:n/2]) {
			t.Errorf("of %d bytes there is %q", n, read(f, "a"))
		}
		for p := range n {
			has(t, f.Crash(0, []int{p}), "a", "x"+string(b[:min(p, n/2)]))
		}
		must(t, f.Append("a", b))
		has(t, f, "a", "x"+string(b[:n/2])+string(b))
	}
}

// P16.3: without power nothing is done any more, whatever is armed; what crashes leave has power.
func TestPower(t *testing.T) {
	for _, c := range seven() {
		f := laid(t, "a", "1")
		must(t, f.Append("a", []byte("2")), f.Create("z"), f.Remove("z"), f.Arm(api.OK, 1), f.Append("a", nil))
		if e := c.do(f); e != api.ErrIO {
			t.Errorf("%+v is %v", c, e)
		}
		bytes := "12"
		if c.what == "append" {
			bytes = "123"
		}
		for i := range 12 {
			for _, more := range seven() {
				if e := more.do(f); e != api.ErrIO {
					t.Fatalf("%+v is %v without power", more, e)
				}
			}
			if i%3 == 1 {
				must(t, f.Arm([]api.Errno{api.ErrSpace, api.ErrIO, api.OK, api.ErrSpace}[i/3], i%2))
			}
		}
		if f.Create("") != api.ErrIO || f.Remove("none") != api.ErrIO || f.Arm(api.ErrNone, 0) != api.ErrArg || f.Arm(api.OK, -1) != api.ErrArg {
			t.Error("wrong calls without power")
		}
		if f.Calls() != 5+12*7+2 {
			t.Error("Calls is", f.Calls())
		}
		has(t, f, "a", bytes)
		has(t, f.Crash(1, nil), "a", "1", "z", "")
		x := f.Crash(9, []int{9})
		has(t, x, "a", bytes)
		for _, more := range seven()[:4] {
			must(t, more.do(x))
		}
		if x.Calls() != 4 {
			t.Error("Calls behind the crash is", x.Calls())
		}
	}
}

// P16.3: what is armed anew is in the place of what was, also of the power that is not gone yet.
func TestArmAnew(t *testing.T) {
	f := laid(t, "a", "")
	must(t, f.Arm(api.OK, 1), f.SyncDir(), f.Arm(api.ErrSpace, 1), f.SyncDir())
	if f.SyncDir() != api.ErrSpace {
		t.Error("the one that was armed last does not count")
	}
	must(t, f.SyncDir(), f.Arm(api.ErrIO, 0), f.Arm(api.ErrSpace, math.MaxInt), f.SyncDir(), f.SyncDir(), f.Arm(api.OK, 0))
	if f.SyncDir() != api.ErrIO || f.SyncDir() != api.ErrIO {
		t.Error("the power does not go")
	}
}
