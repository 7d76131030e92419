package label_test

import (
	"math"
	"regexp"
	"slices"
	"strconv"
	"strings"
	"testing"

	"varve/api"
	"varve/label"
)

// slowQuoted is P11.3's words on a value.
func slowQuoted(v string) string {
	out := `"`
	for _, one := range []byte(v) {
		s := string([]byte{one})
		if one < 0x20 || one >= 0x7f {
			hex := strconv.FormatInt(int64(one), 16)
			s = `\x` + strings.Repeat("0", 2-len(hex)) + hex
		}
		if one == '"' || one == '\\' {
			s = `\` + s
		}
		out += s
	}
	return out + `"`
}

// slowText is P11.3's words on a set.
func slowText(l []api.Label) string {
	var each []string
	for _, one := range l {
		each = append(each, one.Name+"="+slowQuoted(one.Value))
	}
	return strings.Join(each, ",")
}

// A value's text, as a pattern: plain bytes but the quote and the backslash, these two escaped, and the bytes that have digits.
const quotedForm = `"(?:[ !#-\[\]-~]|\\["\\]|\\x(?:[01][0-9a-f]|7f|[89a-f][0-9a-f]))*"`

var (
	oneForm = regexp.MustCompile(`\A([a-z_][a-z0-9_]{0,31})=(` + quotedForm + `)`)
	valForm = regexp.MustCompile(`\A` + quotedForm)
)

// slowParse is the set whose text it is, by patterns and the library's own quotes; nil, if there is none.
func slowParse(t *testing.T, s string) []api.Label {
	t.Helper()
	var l []api.Label
	for rest := s; ; rest = rest[1:] {
		m := oneForm.FindStringSubmatch(rest)
		if m == nil {
			return nil
		}
		v, err := strconv.Unquote(m[2])
		if err != nil {
			t.Fatalf("%q: %v", m[2], err)
		}
		if v == "" || len(v) > 64 || len(l) > 0 && l[len(l)-1].Name >= m[1] || len(l) == 8 {
			return nil
		}
		l = append(l, api.Label{Name: m[1], Value: v})
		rest = rest[len(m[0]):]
		if rest == "" {
			return l
		}
		if rest[0] != ',' {
			return nil
		}
	}
}

// parses holds Parse against slowParse, and tells whether there is a set.
func parses(t *testing.T, s string) bool {
	t.Helper()
	got, e := label.Parse(s)
	want := slowParse(t, s)
	if want == nil {
		if len(got) != 0 || e != api.ErrSyntax {
			t.Fatalf("Parse(%q) = %q, %d", s, got, e)
		}
		return false
	}
	if !slices.Equal(got, want) || e != api.OK {
		t.Fatalf("Parse(%q) = %q, %d, not %q", s, got, e, want)
	}
	if !label.Check(got) || label.Text(got) != s {
		t.Fatalf("Parse(%q) = %q, whose text is %q", s, got, label.Text(got))
	}
	return true
}

func TestText(t *testing.T) { // P11.3
	for _, x := range []struct {
		l    []api.Label
		want string
	}{
		{set("a", "1", "b", "2"), `a="1",b="2"`}, // the chapter's
		{set("a", "1"), `a="1"`},
		{set("a", `"`), `a="\""`},
		{set("a", `\`), `a="\\"`},
		{set("a", `\"\\`), `a="\\\"\\\\"`},
		{set("a", `,`, "b", `=`, "c", `a="1",b="2"`), `a=",",b="=",c="a=\"1\",b=\"2\""`},
		{set("a", " !#~'`"), "a=\" !#~'`\""},
		{set("a", "\x00\x09\x0a\x0d\x1f\x20"), `a="\x00\x09\x0a\x0d\x1f "`},
		{set("a", "\x7e\x7f\x80\xab\xff"), `a="~\x7f\x80\xab\xff"`},
		{set("a", "é€"), `a="\xc3\xa9\xe2\x82\xac"`},
		{set("a", `\x00`), `a="\\x00"`},
		{nil, ""},
		{[]api.Label{}, ""},
		// Those that may not be, by the same words.
		{set("", ""), `=""`},
		{set("b", "", "A \"\x00", "x", "b", "y"), "b=\"\",A \"\x00=\"x\",b=\"y\""},
	} {
		if got := label.Text(x.l); got != x.want || slowText(x.l) != x.want {
			t.Errorf("Text(%q) = %s, not %s", x.l, got, x.want)
		}
	}
	for _, l := range append(right(), wrong()...) {
		if got, want := label.Text(l), slowText(l); got != want {
			t.Errorf("Text(%q) = %s, not %s", l, got, want)
		}
	}
}

func TestTextOfEachByte(t *testing.T) { // P11.3: alone, and between others
	for one := range 256 {
		s := string([]byte{byte(one)})
		for _, v := range []string{s, "a" + s + "b", s + s, s + `"`, `\` + s, s + "x41"} {
			l := set("a", v, "b", v)
			if got := label.Text(l); got != slowText(l) {
				t.Errorf("Text(%q) = %s", l, got)
			}
			if got, e := label.Parse(label.Text(l)); !slices.Equal(got, l) || e != api.OK {
				t.Errorf("%q is parsed as %q, %d", l, got, e)
			}
			if got := label.Quoted(v); got != slowQuoted(v) {
				t.Errorf("Quoted(%q) = %s", v, got)
			}
		}
	}
}

func TestTextIsParsed(t *testing.T) { // P11.3: the set is its text's, and just those that Check allows are
	for _, l := range right() {
		if got, e := label.Parse(label.Text(l)); !slices.Equal(got, l) || e != api.OK {
			t.Errorf("%q is parsed as %q, %d", l, got, e)
		}
		parses(t, label.Text(l))
	}
	for _, l := range wrong() {
		if got, e := label.Parse(label.Text(l)); len(got) != 0 || e != api.ErrSyntax {
			t.Errorf("%q is parsed as %q, %d", l, got, e)
		}
		parses(t, label.Text(l))
	}
}

func TestParseNone(t *testing.T) { // P11.3
	nine := label.Text(many(9))
	for _, s := range []string{
		"", " ", "a", "=", `"`, `""`, `a=`, `="x"`, `a="`, `a="x`, `a=x`, `a=x"`, `a"x"`, `a=""`, `a="x",b=""`, `a="",b="x"`, `a=="x"`, `a='x'`, "a=`x`",
		`A="x"`, `1="x"`, `a-b="x"`, `é="x"`, `a,b="x"`, strings.Repeat("n", 33) + `="x"`, `a="` + strings.Repeat("v", 65) + `"`, `a="` + strings.Repeat(`\xff`, 65) + `"`,
		` a="x"`, `a ="x"`, `a= "x"`, `a="x" `, `a="x" ,b="y"`, `a="x", b="y"`, "a=\"x\"\n", "\ta=\"x\"", `{a="x"}`,
		`,`, `,,`, `,a="x"`, `a="x",`, `a="x",,b="y"`, `a="x",,`, `,,a="x"`, `a="x";b="y"`, `a="x"b="y"`, `a="x","b="y"`,
		`a="\"`, `a="\`, `a="\x`, `a="\x0`, `a="\x00`, `a="\x"`, `a="\x0"`, `a="\x0",b="00"`, `a="\x 0"`, `a="\x0g"`, `a="\xg0"`, `a="\x0G"`, `a="\x/0"`, `a="\x0:"`,
		`a="\xFF"`, `a="\xfF"`, `a="\xFf"`, `a="\x1F"`, `a="\X00"`, `a="\x7F"`, `a="\xé"`,
		`a="\n"`, `a="\t"`, `a="\r"`, `a="\0"`, `a="\000"`, `a="\u00e9"`, `a="\a"`, `a="\'"`, `a="\,"`, `a="\="`, `a="\ "`, "a=\"\\\n\"", "a=\"\\\xff\"",
		`a="\x20"`, `a="\x21"`, `a="\x22"`, `a="\x41"`, `a="\x5c"`, `a="\x61"`, `a="\x7e"`, `a="\x2c"`, `a="\x30"`,
		"a=\"\x00\"", "a=\"\n\"", "a=\"\x1f\"", "a=\"\x7f\"", "a=\"\x80\"", "a=\"\xff\"", `a="é"`, `a="""`, `a="x"y"`, `a="\\""`,
		`b="x",a="x"`, `a="x",a="x"`, `a="x",a="y"`, `a="x",b="x",b="y"`, `a_="x",a0="x"`, `aa="x",a="x"`, `a="x",_="x"`,
		nine, nine + ",", label.Text(many(300)), strings.TrimSuffix(label.Text(many(8)), `"`), label.Text(many(8)) + ",",
		"\x00", "a\x00=\"x\"", strings.Repeat(`a="x",`, 1000), strings.Repeat("=", 1000), strings.Repeat(`"`, 1000), strings.Repeat(`\`, 1000), `a="` + strings.Repeat("x", 1<<20),
	} {
		if got, e := label.Parse(s); len(got) != 0 || e != api.ErrSyntax {
			t.Errorf("Parse(%q) = %q, %d", s[:min(len(s), 100)], got, e)
		}
		if parses(t, s) {
			t.Errorf("%q has a set", s)
		}
	}
}

func TestParseEdges(t *testing.T) { // P11.3: what is just allowed
	for _, x := range []struct {
		s    string
		want []api.Label
	}{
		{`a="x"`, set("a", "x")},
		{`_="\\"`, set("_", `\`)},
		{`a="\"\"",b="\\\\"`, set("a", `""`, "b", `\\`)},
		{`a="\x00",b="\x1f",c="\x7f",d="\x80",e="\xff"`, set("a", "\x00", "b", "\x1f", "c", "\x7f", "d", "\x80", "e", "\xff")},
		{`a="\x000"`, set("a", "\x000")},
		{`a="\\x41"`, set("a", `\x41`)},
		{`a="=",b=",",c=" ",d="b=\"y\""`, set("a", "=", "b", ",", "c", " ", "d", `b="y"`)},
		{strings.Repeat("n", 32) + `="` + strings.Repeat("v", 64) + `"`, set(strings.Repeat("n", 32), strings.Repeat("v", 64))},
		{`a="` + strings.Repeat(`\xff`, 64) + `"`, set("a", strings.Repeat("\xff", 64))},
		{label.Text(many(8)), many(8)},
	} {
		if got, e := label.Parse(x.s); !slices.Equal(got, x.want) || e != api.OK {
			t.Errorf("Parse(%q) = %q, %d", x.s, got, e)
		}
		if !parses(t, x.s) {
			t.Errorf("%q has no set", x.s)
		}
	}
}

func TestParseAllShort(t *testing.T) { // P11.3: each text of few bytes, alone and within a value, as the patterns say
	const few = `a"\x0f=, A`
	var grow func(s string, left int)
	grow = func(s string, left int) {
		parses(t, s)
		parses(t, `a="`+s+`"`)
		parses(t, `a="\x`+s+`"`)
		parses(t, `a="x"`+s+`b="y"`)
		parses(t, s+`a="x"`)
		for i := range len(few) {
			if left > 0 {
				grow(s+few[i:i+1], left-1)
			}
		}
	}
	grow("", 4)
}

func TestParseEachEscape(t *testing.T) { // P11.3: all pairs of bytes behind \x, and each byte behind a backslash
	n := 0
	for one := range 256 {
		parses(t, `a="\`+string([]byte{byte(one)})+`"`)
		parses(t, `a="\`+string([]byte{byte(one)})+`00"`)
		for other := range 256 {
			if parses(t, `a="\x`+string([]byte{byte(one), byte(other)})+`"`) {
				n++
			}
		}
	}
	if n != 32+129 {
		t.Errorf("%d bytes have digits", n)
	}
}

func TestParseCutAndTurned(t *testing.T) { // P11.3: cut at every place, a byte more at every place, a byte turned
	for i, l := range right()[:60] {
		s := label.Text(l)
		for at := range len(s) + 1 {
			parses(t, s[:at])
			parses(t, s[at:])
			for _, more := range []string{`"`, `\`, ",", "=", " ", "a", "0", "_", "A", "x", "\x00", "\n", "\x7f", "\xff"} {
				parses(t, s[:at]+more+s[at:])
			}
			if at == len(s) {
				continue
			}
			parses(t, s[:at]+s[at+1:])
			for bit := range 8 {
				parses(t, s[:at]+string([]byte{s[at] ^ 1<<bit})+s[at+1:])
			}
			for one := range 256 {
				if i < 12 {
					parses(t, s[:at]+string([]byte{byte(one)})+s[at+1:])
				}
			}
		}
	}
}

func TestUnquoted(t *testing.T) { // a value in a text: the place behind it, whatever follows; values of any length
	for _, v := range append(anyBytes(), "", "x", `"`, `\`, `\"`, strings.Repeat("v", 64), strings.Repeat("\xff", 65), strings.Repeat(`"`, 5000)) {
		q := label.Quoted(v)
		for _, ahead := range []string{"", "a=", `"`, "\xff"} {
			for _, behind := range []string{"", `"`, `\`, ",", "\x00"} {
				if got, next, ok := label.Unquoted(ahead+q+behind, len(ahead)); got != v || next != len(ahead)+len(q) || !ok {
					t.Errorf("Unquoted(%q, %d) = %q, %d, %t", ahead+q+behind, len(ahead), got, next, ok)
				}
			}
		}
	}
	for _, s := range []string{"", "x", `"`, `"x`, `\"x"`, `"\"`, `"\x00`, `"\x4`, `"\x41"`, `"\xFF"`, "\"\n\"", "\"\xff\"", `'x'`} {
		if got, next, ok := label.Unquoted(s, 0); got != "" || next != 0 || ok {
			t.Errorf("Unquoted(%q) = %q, %d, %t", s, got, next, ok)
		}
	}
	for _, at := range []int{-1, math.MinInt, 1, 2, 3, 4, math.MaxInt} {
		if got, next, ok := label.Unquoted(`"x"`, at); got != "" || next != 0 || ok {
			t.Errorf("Unquoted at %d = %q, %d, %t", at, got, next, ok)
		}
	}
}

func TestUnquotedIsThePatterns(t *testing.T) { // each text of few bytes from a quote on
	const few = `a"\x0f7F`
	var grow func(s string, left int)
	grow = func(s string, left int) {
		q := valForm.FindString(s)
		want, err := strconv.Unquote(q)
		got, next, ok := label.Unquoted(s, 0)
		if got != want || next != len(q) || ok != (err == nil) {
			t.Fatalf("Unquoted(%q) = %q, %d, %t", s, got, next, ok)
		}
		for i := range len(few) {
			if left > 0 {
				grow(s+few[i:i+1], left-1)
			}
		}
	}
	grow(`"`, 5)
}

func TestParseIsNewMemory(t *testing.T) { // R3, R4: no two answers have anything in common
	s := label.Text(many(8))
	one, _ := label.Parse(s)
	two, _ := label.Parse(s)
	one = append(one[:cap(one)], api.Label{})
	for i := range one {
		one[i] = api.Label{Name: "turned"}
	}
	three, _ := label.Parse(s)
	if !slices.Equal(two, many(8)) || !slices.Equal(three, many(8)) {
		t.Errorf("the answers became %q and %q", two, three)
	}
}
