package vfs

import "slices"

// file is what a name may stand for. Its bytes stand once, with all units done; of the pending ones it keeps how they
// are taken back. So Sync copies nothing, however long the file is.
type file struct {
	born    int // how many files came ahead of it: those of one directory are unlike
	data    []byte
	pending []units
}

// units are such as are taken back in one: bytes that were appended one behind the other, or one cut.
type units struct {
	appended int    // how many bytes; 0 of a cut
	lost     []byte // what a cut took
}

// number is how many they are.
func (u units) number() int {
	if u.appended > 0 {
		return u.appended
	}
	return 1
}

func (f *file) grow(b []byte) {
	if len(b) == 0 {
		return
	}
	f.data = append(f.data, b...)
	if last := len(f.pending) - 1; last >= 0 && f.pending[last].appended > 0 {
		f.pending[last].appended += len(b)
		return
	}
	f.pending = append(f.pending, units{appended: len(b)})
}

func (f *file) cut(size int) {
	// What is appended next is written over what was lost: that is copied.
	f.pending = append(f.pending, units{lost: slices.Clone(f.data[size:])})
	f.data = f.data[:size]
}

func (f *file) sync() {
	f.pending = nil
}

// upTo are the certain bytes with the first p of the pending units done.
func (f *file) upTo(p int) []byte {
	all := 0
	for _, u := range f.pending {
		all += u.number()
	}
	// Below 0, where p is more than there are: then none is taken back.
	back := all - max(p, 0)
	data := slices.Clone(f.data)
	for i := len(f.pending) - 1; back > 0; i-- {
		u := f.pending[i]
		if u.appended > 0 {
			data = data[:len(data)-min(back, u.appended)]
		} else {
			data = append(data, u.lost...)
		}
		back -= min(back, u.number())
	}
	return data
}
