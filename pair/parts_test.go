package pair_test

import (
	"slices"
	"testing"

	"varve/api"
	"varve/pair"
)

// cut cuts a list at places that rise; two of one place have nothing between.
func cut(l []api.Obs, places ...int) []api.Sketch {
	var parts []api.Sketch
	from := 0
	for _, to := range append(places, len(l)) {
		parts = append(parts, pair.Of(l[from:to]))
		from = to
	}
	return parts
}

func TestCutOnce(t *testing.T) { // P10.3: at every place, with a part of none at the ends
	d := draws(13)
	for _, l := range [][]api.Obs{nil, d.obs(1), d.obs(2), d.obs(40), unlike(0, 60)} {
		whole := pair.Of(l)
		for i := range len(l) + 1 {
			parts := cut(l, i)
			got, e := pair.Sum(parts...)
			is(t, got, e, whole)
			got, e = pair.Merge(parts[1], parts[0])
			is(t, got, e, whole)
		}
	}
}

func TestCutTwice(t *testing.T) { // P10.3: at every two places, in every order
	d := draws(17)
	l := d.obs(12)
	whole := pair.Of(l)
	for i := range len(l) + 1 {
		for j := i; j <= len(l); j++ {
			p := cut(l, i, j)
			for _, parts := range [][]api.Sketch{{p[0], p[1], p[2]}, {p[0], p[2], p[1]}, {p[1], p[0], p[2]}, {p[1], p[2], p[0]}, {p[2], p[0], p[1]}, {p[2], p[1], p[0]}} {
				got, e := pair.Sum(parts...)
				is(t, got, e, whole)
			}
		}
	}
}

func TestCutOften(t *testing.T) { // P10.3: into many parts, parts of none among them, in any order
	d := draws(19)
	for range 200 {
		l := d.obs(d.below(50))
		places := make([]int, d.below(12))
		for i := range places {
			places[i] = d.below(len(l) + 1)
		}
		slices.Sort(places)
		parts := cut(l, places...)
		for i := range parts {
			j := d.below(i + 1)
			parts[i], parts[j] = parts[j], parts[i]
		}
		got, e := pair.Sum(parts...)
		is(t, got, e, pair.Of(l))
	}
}

func TestCutOneByOne(t *testing.T) { // P10.3: each observation a part, with nothing between
	d := draws(29)
	l := d.obs(100)
	var parts []api.Sketch
	for i := range l {
		parts = append(parts, pair.Of(l[i:i+1]), pair.Of(nil))
	}
	got, e := pair.Sum(parts...)
	is(t, got, e, pair.Of(l))
	slices.Reverse(parts)
	got, e = pair.Sum(parts...)
	is(t, got, e, pair.Of(l))
}

func TestCutOfManyItems(t *testing.T) { // P10.3: more than 1024 unlike things in all, in a part, in none
	l := unlike(0, 3000)
	whole := pair.Of(l)
	for _, places := range [][]int{{}, {0}, {1}, {500}, {1023}, {1024}, {1025}, {1500}, {2999}, {3000}, {1000, 2000}, {1024, 2048}, {0, 0, 1500, 1500, 3000}, {1, 2, 3, 2500}} {
		parts := cut(l, places...)
		got, e := pair.Sum(parts...)
		is(t, got, e, whole)
		slices.Reverse(parts)
		got, e = pair.Sum(parts...)
		is(t, got, e, whole)
	}
}

// room is a copy of a list with something in its spare room; the whole of it is told too.
func room[E any](l []E, spare ...E) ([]E, []E) {
	whole := slices.Concat(l, spare)
	return whole[:len(l)], whole
}

// spoil turns all that an answer has, spare room too.
func spoil(s api.Sketch) {
	for i := range s.Hist[:cap(s.Hist)] {
		s.Hist[:cap(s.Hist)][i] = api.Bucket{At: -9, N: 99}
	}
	for i := range s.Hashes[:cap(s.Hashes)] {
		s.Hashes[:cap(s.Hashes)][i] = 99
	}
}

func TestObservationsAreLeft(t *testing.T) { // R3: Of changes nothing, spare room included
	d := draws(31)
	l, whole := room(d.obs(20), d.obs(5)...)
	was := slices.Clone(whole)
	first := pair.Of(l)
	second := pair.Of(l)
	spoil(first)
	if !slices.Equal(whole, was) || !equal(second, seen(was[:20]...)) {
		t.Error(whole, second)
	}
}

func TestSketchesAreLeft(t *testing.T) { // R3: what is handed in stays as it was, and shares no memory with what is told
	good := api.Sketch{Hist: []api.Bucket{{At: 5, N: 2}, {At: 278, N: 1}}, Hashes: []uint64{5, 6, 9}, Gauge: api.Gauge{N: 1, Lo: 3, Hi: 3}}
	for _, other := range append(right(), wrong()...) {
		var a, b api.Sketch
		var wholes [2][]api.Bucket
		var hashes [2][]uint64
		a.Hist, wholes[0] = room(good.Hist, api.Bucket{At: 300, N: 7}, api.Bucket{At: 1, N: 8})
		a.Hashes, hashes[0] = room(good.Hashes, 77, 1)
		b.Hist, wholes[1] = room(other.Hist, api.Bucket{At: 300, N: 7}, api.Bucket{At: 1, N: 8})
		b.Hashes, hashes[1] = room(other.Hashes, 77, 1)
		a.Gauge, b.Gauge = good.Gauge, other.Gauge
		wholesWere := [2][]api.Bucket{slices.Clone(wholes[0]), slices.Clone(wholes[1])}
		hashesWere := [2][]uint64{slices.Clone(hashes[0]), slices.Clone(hashes[1])}
		l, all := room([]api.Sketch{a, b}, good)
		for _, call := range []func() (api.Sketch, api.Errno){
			func() (api.Sketch, api.Errno) { return pair.Merge(a, b) },
			func() (api.Sketch, api.Errno) { return pair.Merge(b, a) },
			func() (api.Sketch, api.Errno) { return pair.Merge(api.Sketch{}, b) },
			func() (api.Sketch, api.Errno) { return pair.Merge(b, api.Sketch{}) },
			func() (api.Sketch, api.Errno) { return pair.Sum(b) },
			func() (api.Sketch, api.Errno) { return pair.Sum(l...) },
			func() (api.Sketch, api.Errno) { return pair.Sum(b, a, b, a) },
		} {
			first, _ := call()
			second, _ := call()
			kept := api.Sketch{Hist: slices.Clone(second.Hist), Hashes: slices.Clone(second.Hashes), Gauge: second.Gauge}
			spoil(first)
			if !equal(second, kept) {
				t.Errorf("two answers share memory: %v", brief(second))
			}
		}
		pair.Check(b)
		pair.Empty(b)
		pair.Same(a, b)
		pair.Put(nil, b)
		for i := range 2 {
			if !slices.Equal(wholes[i], wholesWere[i]) || !slices.Equal(hashes[i], hashesWere[i]) {
				t.Errorf("sketch %d was changed: %v, %v", i, wholes[i], hashes[i])
			}
		}
		if !equal(all[0], a) || !equal(all[1], b) || !equal(all[2], good) {
			t.Error("the list was changed")
		}
	}
}
