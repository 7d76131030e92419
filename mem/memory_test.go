package mem_test

import (
	"slices"
	"testing"

	"varve/api"
	"varve/match"
	"varve/mem"
)

// turned turns all of a list, its spare room too.
func turned[T any](l []T, to T) {
	l = l[:cap(l)]
	for i := range l {
		l[i] = to
	}
}

// spoil turns all that a row's lists hold.
func spoil(r api.Row) {
	turned(r.Labels, api.Label{Name: "turned", Value: "t"})
	turned(r.S.Hist, api.Bucket{At: -7, N: 7})
	turned(r.S.Hashes, 7)
}

// spoilAll turns rows, the list that they stand in too, looking at each ahead of that: so what it shares with one that
// was turned would be seen.
func spoilAll(t *testing.T, rows, want []api.Row) {
	t.Helper()
	if len(rows) != len(want) {
		t.Fatalf("%d rows, not %d", len(rows), len(want))
	}
	for i, r := range rows {
		if !same(r, want[i]) {
			t.Fatalf("row %d is %s, not %s", i, brief(r), brief(want[i]))
		}
		spoil(r)
	}
	turned(rows, api.Row{At: -7})
}

// roomy is a row whose lists have spare room, and that room.
func roomy(r api.Row) (api.Row, api.Row) {
	room := copied(r)
	room.Labels = append(room.Labels, set("spare", "1", "room", "2")...)
	room.S.Hist = append(room.S.Hist, api.Bucket{At: 7000, N: 1}, api.Bucket{At: 7001, N: 2})
	room.S.Hashes = append(room.S.Hashes, 8, 9)
	return api.Row{
		Labels: room.Labels[:len(r.Labels)], At: r.At,
		S: api.Sketch{Hist: room.S.Hist[:len(r.S.Hist)], Hashes: room.S.Hashes[:len(r.S.Hashes)], Gauge: r.S.Gauge},
	}, room
}

func TestHandedInIsNeitherChangedNorKept(t *testing.T) { // R3: spare room too, of a row's first sketch and of those behind it
	m := mem.New()
	var s slow
	for i := range 60 {
		r := row(i%7, i%5, i)
		handed, room := roomy(r)
		before := copied(room)
		if e := m.Add(handed); e != api.OK {
			t.Fatal(e)
		}
		s.add(r)
		if !same(room, before) {
			t.Fatalf("%s became %s", brief(before), brief(room))
		}
		spoil(room)
		if got := m.Rows(); !equal(got, s.rows()) {
			t.Fatalf("Rows became %s", brief(got...))
		}
	}
	holds(t, m, s)
}

func TestMatchersAreNeitherChangedNorKept(t *testing.T) { // R3
	texts := []string{"1", "2", "spare", "room"}
	kids := []api.Matcher{{Op: api.Among, Name: "a", Values: texts[:2]}, {Op: api.Is, Name: "b", Value: "1"}, {}, {}}
	was := match.Own(api.Matcher{Op: api.Or, Kids: kids})
	m, s := many(t)
	x := api.Matcher{Op: api.Or, Kids: kids[:2]}
	if got, want := m.Delete(x, 0, 400), s.delete(x, 0, 400); got != want || got == 0 {
		t.Errorf("%d are gone, not %d", got, want)
	}
	if !slices.Equal(texts, []string{"1", "2", "spare", "room"}) || !match.Same(was, api.Matcher{Op: api.Or, Kids: kids}) {
		t.Errorf("they became %q, %v", texts, kids)
	}
	turned(texts, "turned")
	turned(kids, api.Matcher{})
	holds(t, m, s)
}

func TestAnswersAreNewMemory(t *testing.T) { // R3: what is answered can be turned, whatever is asked and added behind it
	m, s := drawn(t, 7, 80)
	want := s.rows()
	one, two, three, day, days, each := m.Rows(), m.Rows(), m.Shared(), m.Day(0), m.Days(), told(t, m.Each())
	spoilAll(t, one, want)
	spoilAll(t, three, want)
	spoilAll(t, each, want)
	spoilAll(t, day, ofDay(s.rows(), 0))
	turned(days, -7)
	holds(t, m, s)
	d := draws(8)
	for range 80 {
		both(t, m, &s, d.row())
	}
	if !equal(two, want) {
		t.Errorf("what was answered became %s", brief(two...))
	}
	spoilAll(t, two, want)
	holds(t, m, s)
}

func TestEachTellsNewMemory(t *testing.T) { // R3, R6: rows that were told are turned: the next loop tells the old ones
	m, s := drawn(t, 9, 50)
	it, want := m.Each(), s.rows()
	for range 3 {
		spoilAll(t, told(t, it), want)
		for _, r := range it {
			spoil(r)
		}
	}
	holds(t, m, s)
}

func TestARowThatWasToldIsAddedElsewhere(t *testing.T) { // R3, R4: two have nothing in common but what was handed over
	m, s := drawn(t, 10, 40)
	other := mem.New()
	var o slow
	for _, r := range m.Rows() {
		both(t, other, &o, r)
		both(t, other, &o, row(3, 4, 2))
		spoil(r)
	}
	holds(t, m, s)
	holds(t, other, o)
	m.Delete(api.Matcher{}, 0, api.Slots)
	holds(t, other, o)
	other.Clear()
	holds(t, m, nil)
	holds(t, mem.New(), nil)
}
