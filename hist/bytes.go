package hist

import (
	"slices"

	"varve/api"
	"varve/vint"
)

// The forms in which buckets are put.
const (
	sparse = 0 // each with how far it lies behind the one ahead
	dense  = 1 // all from the first to the last one, empty ones too
)

// Put puts buckets behind b.
func Put(b []byte, l []api.Bucket) []byte {
	if form(l) == dense {
		return slices.Concat(b, putDense(l))
	}
	return slices.Concat(b, putSparse(l))
}

// Get gets buckets.
func Get(b []byte, at int) ([]api.Bucket, int, bool) {
	kind, from, ok := vint.Get(b, at)
	if !ok {
		return nil, 0, false
	}
	var l []api.Bucket
	var next int
	switch kind {
	case sparse:
		l, next, ok = getSparse(b, from)
	case dense:
		l, next, ok = getDense(b, from)
	default:
		return nil, 0, false
	}
	if !ok || !Check(l) || form(l) != kind {
		return nil, 0, false
	}
	return l, next, true
}

// form is the one that Put takes. The first bucket's place and the N of all take as many bytes in both: so dense has
// fewer, if the empty buckets between are fewer than what tells the places sparsely. Buckets that may not be could lie
// too far apart to be put densely; put sparsely, they are bytes that Get refuses.
func form(l []api.Bucket) uint64 {
	if len(l) == 0 || !Check(l) {
		return sparse
	}
	all := span(l)
	densely := size(all) + all - len(l)
	sparsely := size(len(l))
	for i := range l[1:] {
		sparsely += size(l[i+1].At - l[i].At - 1)
	}
	if densely < sparsely {
		return dense
	}
	return sparse
}

// span is how many buckets there are from the first to the last one.
func span(l []api.Bucket) int {
	return l[len(l)-1].At - l[0].At + 1
}

// size is how many bytes a number takes.
func size(n int) int {
	return len(vint.Put(nil, uint64(n)))
}

// number puts v into out's spare room: vint's Put alone would copy, with each number, all that stands ahead of it.
func number(out []byte, v uint64) []byte {
	return append(out, vint.Put(nil, v)...)
}

func putSparse(l []api.Bucket) []byte {
	out := number([]byte{sparse}, uint64(len(l)))
	// Ahead of the first one stands -1, so that its place is put as it is.
	ahead := -1
	for _, one := range l {
		out = number(out, uint64(one.At-ahead-1))
		out = number(out, one.N)
		ahead = one.At
	}
	return out
}

func putDense(l []api.Bucket) []byte {
	out := number([]byte{dense}, uint64(l[0].At))
	out = number(out, uint64(span(l)))
	at := l[0].At
	for _, one := range l {
		for ; at < one.At; at++ {
			out = number(out, 0)
		}
		out = number(out, one.N)
		at++
	}
	return out
}

// getSparse gets buckets whose places rise; whether they may be is left to Check.
func getSparse(b []byte, from int) ([]api.Bucket, int, bool) {
	many, next, ok := getSize(b, from)
	if !ok {
		return nil, 0, false
	}
	var l []api.Bucket
	at := -1
	for range many {
		// How far one lies behind the one ahead is a size too: so the sum of all of them stays in its type.
		behind, middle, ok := getSize(b, next)
		if !ok {
			return nil, 0, false
		}
		at += behind + 1
		n, end, ok := vint.Get(b, middle)
		if !ok {
			return nil, 0, false
		}
		l, next = append(l, api.Bucket{At: at, N: n}), end
	}
	return l, next, true
}

// getDense gets buckets of which the first and the last one are not empty; whether they may be is left to Check.
func getDense(b []byte, from int) ([]api.Bucket, int, bool) {
	at, middle, ok := getSize(b, from)
	if !ok {
		return nil, 0, false
	}
	many, next, ok := getSize(b, middle)
	if !ok {
		return nil, 0, false
	}
	var l []api.Bucket
	for i := range many {
		n, end, ok := vint.Get(b, next)
		if !ok {
			return nil, 0, false
		}
		if n > 0 {
			l = append(l, api.Bucket{At: at + i, N: n})
		}
		next = end
	}
	if len(l) == 0 || l[0].At != at || span(l) != many {
		return nil, 0, false
	}
	return l, next, true
}

// getSize gets a number that is no more than there are buckets.
func getSize(b []byte, at int) (int, int, bool) {
	v, next, ok := vint.Get(b, at)
	if !ok || v > api.Buckets {
		return 0, 0, false
	}
	return int(v), next, true
}
