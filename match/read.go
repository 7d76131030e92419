package match

import "varve/api"

// refusal is what reading is left with, from however deep: what stands there is no matcher's.
type refusal struct{}

// need leaves the reading where something is not as it must be.
func need(ok bool) {
	if !ok {
		panic(refusal{})
	}
}

// attempt is what is read, if reading comes to its end, and Check allows it.
func attempt(read func() api.Matcher) (m api.Matcher, ok bool) {
	defer func() {
		if recover() != nil {
			m, ok = api.Matcher{}, false
		}
	}()
	m = read()
	need(Check(m))
	return m, true
}

// tally counts the matchers that are read. Check refuses too many of them as well, but by then the calls within one
// another and the lists would have grown with what was handed in.
type tally struct {
	nodes int
}

func (t *tally) more() {
	t.nodes++
	need(t.nodes <= api.MaxNodes)
}
