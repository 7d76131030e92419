package vfs

import (
	"cmp"
	"maps"
	"slices"
)

// Kinds of a turn.
const (
	give = iota // a name is a new file's
	move        // a file's name goes over to another
	take        // a name is gone
)

// turn is a change of a directory.
type turn struct {
	kind     int
	from, to string
	file     *file
}

// do does it to a directory that is as it was ahead of the turn.
func (t turn) do(names map[string]*file) {
	switch t.kind {
	case give:
		names[t.to] = t.file
	case move:
		// The two names may be one: it is set last.
		moved := names[t.from]
		delete(names, t.from)
		names[t.to] = moved
	case take:
		delete(names, t.from)
	}
}

// change does a turn to what is to be seen; for a crash it is pending.
func (f *FS) change(t turn) {
	t.do(f.names)
	f.turns = append(f.turns, t)
}

// Crash is what is left: the first turns, of each file its first units.
func (f *FS) Crash(ops int, picks []int) *FS {
	names := maps.Clone(f.certain)
	for _, t := range f.turns[:min(max(ops, 0), len(f.turns))] {
		t.do(names)
	}
	byBirth := slices.SortedFunc(maps.Keys(names), func(a, b string) int {
		return cmp.Compare(names[a].born, names[b].born)
	})
	left := New()
	for i, name := range byBirth {
		p := 0
		if len(picks) > 0 {
			p = picks[i%len(picks)]
		}
		left.lay(name, names[name].upTo(p))
	}
	return left
}
