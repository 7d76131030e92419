package match

import (
	"strings"

	"varve/api"
	"varve/label"
)

// Text is a matcher as a text; the empty one, if it may not be.
func Text(m api.Matcher) string {
	if !Check(m) {
		return ""
	}
	return text(m)
}

func text(m api.Matcher) string {
	switch m.Op {
	case api.All:
		return "*"
	case api.Is:
		return label.Text([]api.Label{{Name: m.Name, Value: m.Value}})
	case api.Isnt:
		return m.Name + "!=" + label.Quoted(m.Value)
	case api.Begins:
		return m.Name + "^=" + label.Quoted(m.Value)
	case api.Among:
		return m.Name + "@" + listed(m.Values, label.Quoted)
	case api.And:
		return "&" + listed(m.Kids, text)
	case api.Or:
		return "|" + listed(m.Kids, text)
	}
	return "!" + listed(m.Kids, text)
}

// listed is a list in brackets.
func listed[T any](l []T, text func(T) string) string {
	each := make([]string, len(l))
	for i, one := range l {
		each[i] = text(one)
	}
	return "(" + strings.Join(each, ",") + ")"
}

// Parse is the matcher whose text it is.
func Parse(s string) (api.Matcher, api.Errno) {
	if isDeep(s) {
		return api.Matcher{}, api.ErrDeep
	}
	r := textReader{s: s}
	m, ok := attempt(r.whole)
	if !ok {
		return api.Matcher{}, api.ErrSyntax
	}
	return m, api.OK
}

// isDeep tells whether too many brackets are open at once. It goes through all of the text, whatever it is: ErrDeep comes
// ahead of ErrSyntax, also where a fault stands ahead of the brackets.
func isDeep(s string) bool {
	open, within := 0, false
	for i := 0; i < len(s); i++ {
		switch one := s[i]; {
		case one == '"':
			within = !within
		case within && one == '\\':
			i++
		case !within && one == '(':
			open++
		case !within && one == ')' && open > 0:
			open--
		}
		if open > api.MaxDepth {
			return true
		}
	}
	return false
}

// textReader reads a matcher from its text.
type textReader struct {
	tally
	s  string
	at int
}

// whole reads a matcher with nothing behind it.
func (r *textReader) whole() api.Matcher {
	m := r.matcher()
	need(r.at == len(r.s))
	return m
}

func (r *textReader) matcher() api.Matcher {
	r.more()
	switch {
	case r.took("*"):
		return api.Matcher{Op: api.All}
	case r.took("&"):
		return api.Matcher{Op: api.And, Kids: list(r, r.matcher)}
	case r.took("|"):
		return api.Matcher{Op: api.Or, Kids: list(r, r.matcher)}
	case r.took("!"):
		return api.Matcher{Op: api.Not, Kids: list(r, r.matcher)}
	}
	return r.named()
}

// named reads a matcher that asks for a name's value.
func (r *textReader) named() api.Matcher {
	name := r.name()
	switch {
	case r.took("="):
		return api.Matcher{Op: api.Is, Name: name, Value: r.value()}
	case r.took("!="):
		return api.Matcher{Op: api.Isnt, Name: name, Value: r.value()}
	case r.took("^="):
		return api.Matcher{Op: api.Begins, Name: name, Value: r.value()}
	}
	need(r.took("@"))
	return api.Matcher{Op: api.Among, Name: name, Values: list(r, r.value)}
}

// name reads the longest name that begins here: whatever a name begins with is one too.
func (r *textReader) name() string {
	from := r.at
	for r.at < len(r.s) && label.Name(r.s[from:r.at+1]) {
		r.at++
	}
	return r.s[from:r.at]
}

func (r *textReader) value() string {
	value, next, ok := label.Unquoted(r.s, r.at)
	need(ok)
	r.at = next
	return value
}

// took passes over a sign, if it stands here.
func (r *textReader) took(sign string) bool {
	if !strings.HasPrefix(r.s[r.at:], sign) {
		return false
	}
	r.at += len(sign)
	return true
}

// list reads a list in brackets.
func list[T any](r *textReader, read func() T) []T {
	need(r.took("("))
	if r.took(")") {
		return nil
	}
	l := []T{read()}
	for r.took(",") {
		l = append(l, read())
	}
	need(r.took(")"))
	return l
}
