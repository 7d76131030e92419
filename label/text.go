package label

import (
	"strings"

	"varve/api"
)

// digits are those of an escaped byte: there are no capitals, so that a value has just one text.
const digits = "0123456789abcdef"

// Quoted is a value between quotes.
func Quoted(value string) string {
	var out strings.Builder
	out.WriteByte('"')
	for i := range len(value) {
		switch one := value[i]; {
		case one == '"' || one == '\\':
			out.WriteByte('\\')
			out.WriteByte(one)
		case isPlain(one):
			out.WriteByte(one)
		default:
			out.WriteString(`\x`)
			out.WriteByte(digits[one>>4])
			out.WriteByte(digits[one&0xf])
		}
	}
	out.WriteByte('"')
	return out.String()
}

// Text is a set as a text.
func Text(l []api.Label) string {
	var out strings.Builder
	for i, one := range l {
		if i > 0 {
			out.WriteByte(',')
		}
		out.WriteString(one.Name)
		out.WriteByte('=')
		out.WriteString(Quoted(one.Value))
	}
	return out.String()
}

// Unquoted is the value that begins with a quote at a place, and the place behind it; false: there is none.
func Unquoted(s string, at int) (string, int, bool) {
	var out []byte
	var one byte
	var width int
	if at < 0 || at >= len(s) || s[at] != '"' {
		goto none
	}
	at++
next:
	if at >= len(s) {
		goto none
	}
	one = s[at]
	if one == '"' {
		goto end
	}
	if one == '\\' {
		goto escape
	}
	if !isPlain(one) {
		goto none
	}
	out = append(out, one)
	at++
	goto next
escape:
	one, width = escaped(s[at:])
	if width == 0 {
		goto none
	}
	out = append(out, one)
	at += width
	goto next
end:
	return string(out), at + 1, true
none:
	return "", 0, false
}

// Parse is the set whose text it is.
func Parse(s string) ([]api.Label, api.Errno) {
	l, ok := split(s)
	if !ok || !Check(l) {
		return nil, api.ErrSyntax
	}
	return l, api.OK
}

// split is the labels of a text, whatever their names, and however long their values.
func split(s string) ([]api.Label, bool) {
	var l []api.Label
	for at := 0; len(l) < api.MaxLabels; at++ {
		name, _, _ := strings.Cut(s[at:], "=")
		// Without a sign that name is the rest, and no value begins behind the end.
		value, behind, ok := Unquoted(s, at+len(name)+1)
		if !ok {
			return nil, false
		}
		l = append(l, api.Label{Name: name, Value: value})
		if behind == len(s) {
			return l, true
		}
		if s[behind] != ',' {
			return nil, false
		}
		at = behind
	}
	return nil, false
}

// escaped is the byte that an escape at the beginning of a text stands for, and how many bytes the escape has: none, if
// Quoted does not write it so.
func escaped(s string) (byte, int) {
	if len(s) >= 2 && (s[1] == '"' || s[1] == '\\') {
		return s[1], 2
	}
	if len(s) < 4 || s[1] != 'x' {
		return 0, 0
	}
	upper, lower := strings.IndexByte(digits, s[2]), strings.IndexByte(digits, s[3])
	if upper < 0 || lower < 0 {
		return 0, 0
	}
	one := byte(upper<<4 | lower)
	if isPlain(one) {
		return 0, 0
	}
	return one, 4
}

// isPlain tells whether a byte can be read by eye: the others are told by their digits.
func isPlain(one byte) bool {
	return one >= 0x20 && one < 0x7f
}
