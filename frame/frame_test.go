package frame_test

import (
	"bytes"
	"encoding/binary"
	"hash/crc32"
	"iter"
	"math"
	"slices"
	"testing"

	"varve/api"
	"varve/frame"
)

// castagnoli are layer 3's sums as the library has them.
var castagnoli = crc32.MakeTable(crc32.Castagnoli)

// whole is a frame by the chapter's words: length, sum, body; of any length, right ones or not.
func whole(body []byte) []byte {
	return framed(uint64(len(body)), body)
}

// framed is a frame whose length says n, whatever its body has.
func framed(n uint64, body []byte) []byte {
	out := binary.AppendUvarint(nil, n)
	out = binary.LittleEndian.AppendUint32(out, crc32.Checksum(body, castagnoli))
	return append(out, body...)
}

// filled is a body of so many bytes, all kinds of them.
func filled(n int) []byte {
	out := make([]byte, n)
	seed := uint32(n)
	for i := range out {
		seed = seed*1664525 + 1013904223
		out[i] = byte(seed >> 24)
	}
	return out
}

// sizes are those of bodies at each edge of the length's bytes, the least and the greatest.
func sizes() []int {
	return []int{1, 2, 3, 100, 127, 128, 129, 300, 16383, 16384, 16385, api.MaxBody - 1, api.MaxBody}
}

// chain are the frames of bodies one behind the other, and where they begin, the end behind them.
func chain(bodies [][]byte) ([]byte, []int) {
	b, places := []byte{}, []int{0}
	for _, body := range bodies {
		b = append(b, whole(body)...)
		places = append(places, len(b))
	}
	return b, places
}

// few are some bodies, two of them alike.
func few() [][]byte {
	return [][]byte{[]byte("a"), []byte("bcd"), {0}, filled(130), []byte("bcd"), {0xff, 0xff}}
}

// told is what an iterator tells, to its end.
func told(all iter.Seq2[int, []byte]) ([]int, [][]byte) {
	var places []int
	var bodies [][]byte
	for at, body := range all {
		places = append(places, at)
		bodies = append(bodies, body)
	}
	return places, bodies
}

func sameBodies(a, b [][]byte) bool {
	return slices.EqualFunc(a, b, bytes.Equal)
}

// none checks that Get tells nothing at a place, and why.
func none(t *testing.T, b []byte, at int, want api.Errno) {
	t.Helper()
	if body, next, e := frame.Get(b, at); body != nil || next != 0 || e != want {
		t.Errorf("Get(% x.., %d): %d bytes, %d, %v, not %v", b[:min(len(b), 16)], at, len(body), next, e, want)
	}
}

// broken checks that no right frame begins at 0: Get, All and Ends say so.
func broken(t *testing.T, what string, b []byte) {
	t.Helper()
	none(t, b, 0, api.ErrBytes)
	for at := range frame.All(b) {
		t.Errorf("%s: All tells a frame at %d", what, at)
	}
	if end, is := frame.Ends(b); end != 0 || is {
		t.Errorf("%s: Ends %d, %v", what, end, is)
	}
}

func TestPutIsLengthSumBody(t *testing.T) { // P5.1
	for _, n := range sizes() {
		body := filled(n)
		for _, ahead := range [][]byte{nil, {}, {7}, []byte("what stands ahead")} {
			b, e := frame.Put(ahead, body)
			if e != api.OK || !bytes.Equal(b, slices.Concat(ahead, whole(body))) {
				t.Errorf("%d bytes behind %d: %v", n, len(ahead), e)
			}
		}
	}
}

func TestPutRefusesBodies(t *testing.T) { // P5.1
	for _, body := range [][]byte{nil, {}, filled(api.MaxBody + 1), filled(2*api.MaxBody + 5)} {
		for _, ahead := range [][]byte{nil, {}, {7}, whole([]byte("ahead"))} {
			if b, e := frame.Put(ahead, body); e != api.ErrArg || !bytes.Equal(b, ahead) {
				t.Errorf("%d bytes behind %d: %d bytes, %v", len(body), len(ahead), len(b), e)
			}
		}
	}
}

func TestPutLeavesWhatIsHandedIn(t *testing.T) { // P5.1, R3
	for _, n := range []int{0, 1, 5, 200, api.MaxBody + 1} {
		room := bytes.Repeat([]byte{0xaa}, 500)
		b := room[:20]
		body := filled(n + 50)[:n]
		before := slices.Clone(body[:n+50])
		first, _ := frame.Put(b, body)
		if !bytes.Equal(room, bytes.Repeat([]byte{0xaa}, 500)) || !bytes.Equal(body[:n+50], before) {
			t.Errorf("%d bytes: what was handed in is turned", n)
		}
		want := slices.Clone(first)
		clear(room)
		clear(body[:n+50])
		if !bytes.Equal(first, want) {
			t.Errorf("%d bytes: what was answered is of what was handed in", n)
		}
		second, _ := frame.Put(first, body)
		clear(first[:cap(first)])
		if len(second) < len(want) || !bytes.Equal(second[:len(want)], want) {
			t.Errorf("%d bytes: two answers share memory", n)
		}
	}
}

func TestPutOfItsOwnBytes(t *testing.T) { // P5.1: the body may be a piece of b, or lie in its spare room
	room := filled(100)
	want := slices.Concat(room[:40], whole(room[10:60]))
	if b, e := frame.Put(room[:40], room[10:60]); e != api.OK || !bytes.Equal(b, want) {
		t.Errorf("% x, %v", b, e)
	}
}

func TestGetIsWhatWasPut(t *testing.T) { // P5.1
	for _, n := range sizes() {
		body := filled(n)
		for _, ahead := range [][]byte{nil, {0}, filled(9)} {
			for _, behind := range [][]byte{nil, {0}, whole([]byte("next"))} {
				b := slices.Concat(ahead, whole(body), behind)
				got, next, e := frame.Get(b, len(ahead))
				if e != api.OK || next != len(b)-len(behind) || !bytes.Equal(got, body) {
					t.Errorf("%d bytes: %d, %d, %v", n, len(got), next, e)
				}
			}
		}
	}
}

func TestGetRefusesPlaces(t *testing.T) { // P5.1
	for _, b := range [][]byte{nil, {}, {1}, whole([]byte("a")), {0x80, 0x80}} {
		spare := append(slices.Clone(b), whole([]byte("behind"))...)[:len(b)]
		for _, at := range []int{math.MinInt, -len(b) - 1, -2, -1, len(b) + 1, len(b) + 2, math.MaxInt} {
			none(t, spare, at, api.ErrArg)
		}
		none(t, spare, len(b), api.ErrNone)
	}
	b := whole([]byte("abc"))
	for at := 1; at < len(b); at++ {
		none(t, b, at, api.ErrBytes)
	}
}

func TestGetRefusesLengths(t *testing.T) { // P5.1
	for _, n := range []int{1, 3, 127, 128, 300} {
		right := whole(filled(n))
		digits := len(right) - n - 4
		// One more byte that adds nothing: it says the same length, but isn't the shortest.
		long := slices.Clone(right[:digits])
		long[digits-1] |= 0x80
		broken(t, "not the shortest", slices.Concat(long, []byte{0}, right[digits:]))
		broken(t, "not the shortest", slices.Concat(long, []byte{0x80, 0}, right[digits:]))
	}
	broken(t, "nought", framed(0, nil))
	broken(t, "nought", slices.Concat(framed(0, nil), whole([]byte("a"))))
	broken(t, "nought, not the shortest", append([]byte{0x80}, framed(0, nil)...))
	broken(t, "nothing but noughts", make([]byte, 100))
	broken(t, "one more than MaxBody", whole(filled(api.MaxBody+1)))
	for _, n := range []int{2 * api.MaxBody, 3*api.MaxBody + 1} {
		broken(t, "more than MaxBody", whole(filled(n)))
	}
	for _, n := range []uint64{6, 100, api.MaxBody, api.MaxBody + 1, 1 << 31, 1<<32 + 5, 1 << 62, 1<<63 - 4, 1 << 63, 1<<63 + 5, math.MaxUint64 - 4, math.MaxUint64} {
		broken(t, "more than the bytes left", framed(n, filled(5)))
	}
	broken(t, "more than 64 bits", append(bytes.Repeat([]byte{0xff}, 9), framed(2, filled(2))...))
	broken(t, "no end", bytes.Repeat([]byte{0xff}, 30))
	broken(t, "fewer than there are", framed(4, filled(5)))
}

func TestGetRefusesCutFrames(t *testing.T) { // P5.1: in the length, in the sum, in the body
	for _, n := range []int{1, 2, 127, 128, 300, 16384} {
		right := whole(filled(n))
		// The rest stands in the spare room, where nobody may look.
		for cut := 1; cut < len(right); cut += 1 + cut/300*97 {
			broken(t, "cut", right[:cut])
		}
		broken(t, "cut by one", right[:len(right)-1])
	}
}

func TestGetRefusesTurnedBytes(t *testing.T) { // P5.1
	for _, n := range []int{1, 3, 130} {
		b := slices.Concat(whole(filled(n)), whole([]byte("next")), filled(300))
		for i := range len(whole(filled(n))) {
			for bit := range 8 {
				b[i] ^= 1 << bit
				broken(t, "turned", b)
				b[i] ^= 1 << bit
			}
		}
	}
	// The sum's bytes the other way round are no sum.
	b := whole([]byte("abc"))
	slices.Reverse(b[1:5])
	broken(t, "the highest first", b)
}

func TestGetLeavesWhatIsHandedIn(t *testing.T) { // P5.1, R3
	b := slices.Concat(whole([]byte("abc")), whole([]byte("de")))
	before := slices.Clone(b)
	one, next, _ := frame.Get(b, 0)
	two, _, _ := frame.Get(b, next)
	_ = append(one, bytes.Repeat([]byte{0xee}, 20)...)
	clear(one[:cap(one)])
	if !bytes.Equal(b, before) || string(two) != "de" {
		t.Errorf("what was answered shares memory: % x, %q", b, two)
	}
	clear(b)
	if string(two) != "de" {
		t.Errorf("the answer is a piece of b: %q", two)
	}
}

func TestAllTellsPlacesAndBodies(t *testing.T) { // P5.2
	bodies := append(few(), filled(api.MaxBody), filled(1))
	b, places := chain(bodies)
	at, got := told(frame.All(b))
	if !slices.Equal(at, places[:len(bodies)]) || !sameBodies(got, bodies) {
		t.Errorf("places %v, %d bodies", at, len(got))
	}
	if end, is := frame.Ends(b); end != len(b) || !is {
		t.Errorf("Ends %d, %v", end, is)
	}
}

func TestAllOfNothing(t *testing.T) { // P5.2
	for _, b := range [][]byte{nil, {}, whole([]byte("a"))[:0]} {
		if at, _ := told(frame.All(b)); len(at) != 0 {
			t.Errorf("%v: places %v", b, at)
		}
		if end, is := frame.Ends(b); end != 0 || !is {
			t.Errorf("%v: Ends %d, %v", b, end, is)
		}
	}
}

func TestAllStopsAtTheFirstPlaceWithout(t *testing.T) { // P5.2
	bodies := few()
	right, places := chain(bodies)
	for _, bad := range [][]byte{{0}, {1}, {0x80}, {0x81, 0}, filled(30), framed(0, nil), whole([]byte("abc"))[:6]} {
		for n, place := range places {
			// Right frames behind the bad bytes are none any more.
			b := slices.Concat(right[:place], bad, right[place:])
			at, got := told(frame.All(b))
			if !slices.Equal(at, places[:n]) || !sameBodies(got, bodies[:n]) {
				t.Errorf("% x at %d: places %v", bad, place, at)
			}
			if end, is := frame.Ends(b); end != place || is {
				t.Errorf("% x at %d: Ends %d, %v", bad, place, end, is)
			}
		}
	}
}

func TestAllIsWhatGetTells(t *testing.T) { // P5.2, with bytes of all kinds: turned, left out, put in
	right, _ := chain(few())
	seed := uint32(5)
	next := func(n int) int {
		seed = seed*1664525 + 1013904223
		return int(seed>>8) % n
	}
	for range 3000 {
		b := slices.Clone(right)
		for range 1 + next(2) {
			i := next(len(b))
			switch next(3) {
			case 0:
				b[i] ^= byte(1 << next(8))
			case 1:
				b = slices.Delete(b, i, i+1)
			default:
				b = slices.Insert(b, i, byte(next(256)))
			}
		}
		var places []int
		var bodies [][]byte
		at := 0
		for {
			body, behind, e := frame.Get(b, at)
			if e != api.OK {
				break
			}
			places, bodies, at = append(places, at), append(bodies, body), behind
		}
		if got, bs := told(frame.All(b)); !slices.Equal(got, places) || !sameBodies(bs, bodies) {
			t.Fatalf("% x: %v, not %v", b, got, places)
		}
		if end, is := frame.Ends(b); end != at || is != (at == len(b)) {
			t.Fatalf("% x: Ends %d, %v, not %d", b, end, is, at)
		}
	}
}

func TestAllIsLeftEarlyAndGoneThroughAgain(t *testing.T) { // P5.2, R6
	bodies := few()
	b, places := chain(bodies)
	all := frame.All(b)
	for n := range bodies {
		seen := 0
		for at, body := range all {
			if at != places[seen] || !bytes.Equal(body, bodies[seen]) {
				t.Errorf("%d: %q at %d", seen, body, at)
			}
			if seen == n {
				break
			}
			seen++
		}
		if seen != n {
			t.Errorf("left at %d, not at %d", seen, n)
		}
	}
	// One loop in another: each goes its own way.
	loops := 0
	for range all {
		at, _ := told(all)
		if !slices.Equal(at, places[:len(bodies)]) {
			t.Errorf("an inner loop tells %v", at)
		}
		loops++
	}
	if loops != len(bodies) {
		t.Errorf("the outer loop tells %d", loops)
	}
}

func TestAllAsksNoMoreOfALoopThatIsLeft(t *testing.T) { // P5.2, R6
	b, _ := chain(few())
	calls := 0
	frame.All(b)(func(int, []byte) bool {
		calls++
		return calls < 3
	})
	if calls != 3 {
		t.Errorf("%d calls", calls)
	}
}

func TestAllTellsWhatWasThere(t *testing.T) { // P5.2, R3, R6
	bodies := few()
	b, places := chain(bodies)
	all := frame.All(b)
	clear(b)
	for range 2 {
		at, got := told(all)
		if !slices.Equal(at, places[:len(bodies)]) || !sameBodies(got, bodies) {
			t.Fatalf("behind a change of b, or of what was told: %v", at)
		}
		// What was told is the caller's: neither the next loop nor another body hangs on it.
		for i, body := range got {
			_ = append(body, bytes.Repeat([]byte{0xee}, 20)...)
			clear(body[:cap(body)])
			if i+1 < len(got) && !sameBodies(got[i+1:], bodies[i+1:]) {
				t.Fatalf("bodies share memory behind %d", i)
			}
		}
	}
	b, _ = chain(bodies)
	before := slices.Clone(b)
	for _, body := range frame.All(b) {
		_ = append(body, 0xee)
		clear(body)
	}
	frame.Ends(b)
	if !bytes.Equal(b, before) {
		t.Errorf("a loop turned b")
	}
}

func TestAllStaysWhileItsLoopTurnsThings(t *testing.T) { // P5.2, R6
	bodies := few()
	b, places := chain(bodies)
	n := 0
	for at, body := range frame.All(b) {
		if at != places[n] || !bytes.Equal(body, bodies[n]) {
			t.Errorf("%d: %q at %d", n, body, at)
		}
		clear(b)
		clear(body)
		n++
	}
	if n != len(bodies) {
		t.Errorf("%d frames", n)
	}
}

func TestCutAnywhereIsABeginning(t *testing.T) { // P5.3
	bodies := few()
	var b []byte
	for _, body := range bodies {
		b, _ = frame.Put(b, body)
	}
	_, places := chain(bodies)
	for cut := range len(b) + 1 {
		n := 0
		for n < len(bodies) && places[n+1] <= cut {
			n++
		}
		for _, short := range [][]byte{b[:cut], slices.Clip(slices.Clone(b[:cut]))} {
			at, got := told(frame.All(short))
			if !slices.Equal(at, places[:n]) || !sameBodies(got, bodies[:n]) {
				t.Errorf("cut at %d: %v", cut, at)
			}
			if end, is := frame.Ends(short); end != places[n] || is != (places[n] == cut) {
				t.Errorf("cut at %d: Ends %d, %v", cut, end, is)
			}
		}
	}
}

func TestExamples(t *testing.T) {
	b, e := frame.Put(nil, []byte("a"))
	if e != api.OK || !bytes.Equal(b, []byte{0x01, 0x30, 0x43, 0xd0, 0xc1, 0x61}) {
		t.Errorf("% x, %v", b, e)
	}
	if body, next, e := frame.Get(b, 0); string(body) != "a" || next != 6 || e != api.OK {
		t.Errorf("%q, %d, %v", body, next, e)
	}
}
