package index

import (
	"iter"
	"maps"
	"slices"
	"strings"

	"varve/api"
	"varve/match"
	"varve/post"
)

// Post are the numbers of the sets in which a name has that value.
func (x *Index) Post(name, value string) []int {
	if value == "" {
		having := slices.Collect(maps.Values(x.posts[name]))
		return x.rest(list(post.Or(having...)))
	}
	return slices.Clone(x.posts[name][value])
}

// Select are the numbers of the sets that a matcher means.
func (x *Index) Select(m api.Matcher) ([]int, api.Errno) {
	if !match.Check(m) {
		return nil, api.ErrInvalid
	}
	return x.meant(m), api.OK
}

// meant puts together the lists of values, so that no set is asked by itself. Check has bounded how deep it goes.
func (x *Index) meant(m api.Matcher) []int {
	switch m.Op {
	case api.All:
		return x.all()
	case api.Is:
		return x.Post(m.Name, m.Value)
	case api.Isnt:
		return x.rest(x.Post(m.Name, m.Value))
	case api.Begins:
		return x.beginning(m.Name, m.Value)
	case api.Among:
		return x.among(m.Name, m.Values)
	case api.And:
		return x.meantByAll(m.Kids)
	case api.Or:
		return x.meantByOne(m.Kids)
	case api.Not:
		return x.rest(x.meantByOne(m.Kids))
	}
	return nil
}

// beginning are the sets in which a name's value begins so.
func (x *Index) beginning(name, start string) []int {
	// The value of those that have no such label begins with the empty text alone.
	if start == "" {
		return x.all()
	}
	var lists [][]int
	for value := range x.Values(name) {
		if strings.HasPrefix(value, start) {
			lists = append(lists, x.posts[name][value])
		}
	}
	return list(post.Or(lists...))
}

// among are the sets in which a name has one of the values.
func (x *Index) among(name string, values []string) []int {
	var lists [][]int
	for _, value := range values {
		lists = append(lists, x.Post(name, value))
	}
	return list(post.Or(lists...))
}

func (x *Index) meantByAll(kids []api.Matcher) []int {
	out := x.all()
	for _, kid := range kids {
		out = list(post.And(out, x.meant(kid)))
	}
	return out
}

func (x *Index) meantByOne(kids []api.Matcher) []int {
	var lists [][]int
	for _, kid := range kids {
		lists = append(lists, x.meant(kid))
	}
	return list(post.Or(lists...))
}

// all are the numbers of all sets.
func (x *Index) all() []int {
	out := make([]int, x.Len())
	for id := range out {
		out[id] = id
	}
	return out
}

// rest are the numbers that are not in a list.
func (x *Index) rest(l []int) []int {
	return list(post.Less(x.all(), l))
}

// list is all that is told: no more than there may be sets.
func list(it iter.Seq[int]) []int {
	return post.List(it, maxSets)
}
