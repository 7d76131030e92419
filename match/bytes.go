package match

import (
	"slices"

	"varve/api"
	"varve/vint"
)

// Put puts a matcher behind b; for one that may not be, an Op that Get refuses.
func Put(b []byte, m api.Matcher) []byte {
	if !Check(m) {
		return vint.Put(b, noOp)
	}
	return slices.Concat(b, put(m))
}

func put(m api.Matcher) []byte {
	out := vint.Put(nil, uint64(m.Op))
	switch m.Op {
	case api.Is, api.Isnt, api.Begins:
		out = vint.PutText(out, m.Name)
		out = vint.PutText(out, m.Value)
	case api.Among:
		out = vint.PutText(out, m.Name)
		out = vint.Put(out, uint64(len(m.Values)))
		for _, value := range m.Values {
			out = vint.PutText(out, value)
		}
	case api.And, api.Or:
		out = vint.Put(out, uint64(len(m.Kids)))
	}
	for _, kid := range m.Kids {
		out = append(out, put(kid)...)
	}
	return out
}

// Get gets a matcher.
func Get(b []byte, at int) (api.Matcher, int, bool) {
	r := byteReader{b: b, at: at}
	m, ok := attempt(r.matcher)
	if !ok {
		return api.Matcher{}, 0, false
	}
	return m, r.at, true
}

// byteReader reads a matcher from bytes.
type byteReader struct {
	tally
	b  []byte
	at int
}

func (r *byteReader) matcher() api.Matcher {
	r.more()
	m := api.Matcher{Op: r.number(api.Not)}
	switch m.Op {
	case api.Is, api.Isnt, api.Begins:
		m.Name = r.text(api.MaxName)
		m.Value = r.text(api.MaxValue)
	case api.Among:
		m.Name = r.text(api.MaxName)
		m.Values = times(r.number(maxAmong), r.value)
	case api.And, api.Or:
		m.Kids = times(r.number(api.MaxNodes), r.matcher)
	case api.Not:
		m.Kids = times(1, r.matcher)
	}
	return m
}

// number reads a number that is at most so great.
func (r *byteReader) number(most uint64) int {
	v, next, ok := vint.Get(r.b, r.at)
	need(ok && v <= most)
	r.at = next
	return int(v)
}

// text reads a text of at most so many bytes.
func (r *byteReader) text(most int) string {
	s, next, ok := vint.GetText(r.b, r.at, most)
	need(ok)
	r.at = next
	return s
}

func (r *byteReader) value() string {
	return r.text(api.MaxValue)
}

// times reads so many things of a kind.
func times[T any](n int, read func() T) []T {
	var l []T
	for range n {
		l = append(l, read())
	}
	return l
}
