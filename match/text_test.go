package match_test

import (
	"regexp"
	"slices"
	"strconv"
	"strings"
	"testing"

	"varve/api"
	"varve/match"
)

// slowQuoted is a value between quotes, by P11.3's words.
func slowQuoted(v string) string {
	out := `"`
	for _, one := range []byte(v) {
		switch {
		case one < 0x20 || one >= 0x7f:
			hex := strconv.FormatInt(int64(one), 16)
			out += `\x` + strings.Repeat("0", 2-len(hex)) + hex
		case one == '"' || one == '\\':
			out += `\` + string(rune(one))
		default:
			out += string(rune(one))
		}
	}
	return out + `"`
}

// slowText is P12.3's words.
func slowText(m api.Matcher) string {
	var kids, values []string
	for _, kid := range m.Kids {
		kids = append(kids, slowText(kid))
	}
	for _, v := range m.Values {
		values = append(values, slowQuoted(v))
	}
	switch m.Op {
	case api.All:
		return "*"
	case api.Among:
		return m.Name + "@(" + strings.Join(values, ",") + ")"
	case api.Is, api.Isnt, api.Begins:
		return m.Name + []string{"", "=", "!=", "^="}[m.Op] + slowQuoted(m.Value)
	}
	return string("&|!"[m.Op-api.And]) + "(" + strings.Join(kids, ",") + ")"
}

// Patterns of a text's parts: a value, a matcher that asks for a name's value, others around those that are read already.
const quotedForm = `"(?:[ !#-\[\]-~]|\\["\\]|\\x(?:[01][0-9a-f]|7f|[89a-f][0-9a-f]))*"`

var (
	valueForm = regexp.MustCompile(quotedForm)
	namedForm = regexp.MustCompile(`[a-z_][a-z0-9_]{0,31}(?:(?:|!|\^)=` + quotedForm + `|@\(` + quotedForm + `(?:,` + quotedForm + `)*\))`)
	groupForm = regexp.MustCompile(`[&|]\((?:\*(?:,\*)*)?\)|!\(\*\)`)
	anyValue  = regexp.MustCompile(`(?s)"(?:[^"\\]|\\.|\\$)*(?:"|$)`)
)

// isText tells by patterns whether a text is a matcher's that Check allows: what asks for values becomes a star, then each
// group of stars does, till there is one star alone.
func isText(t *testing.T, s string) bool {
	t.Helper()
	bytes, ok := 0, true
	stars := namedForm.ReplaceAllStringFunc(s, func(one string) string {
		name := one[:strings.IndexAny(one, "=!^@")]
		bytes += len(name)
		var values []string
		for _, q := range valueForm.FindAllString(one[len(name):], -1) {
			v, err := strconv.Unquote(q)
			if err != nil {
				t.Fatalf("%q: %v", q, err)
			}
			bytes += len(v)
			ok = ok && len(v) <= 64 && (len(values) == 0 || values[len(values)-1] < v)
			values = append(values, v)
		}
		ok = ok && len(values) <= 16
		return "*"
	})
	nodes, open, depth := 0, 0, 0
	for _, one := range stars {
		switch one {
		case '*', '&', '|', '!':
			nodes++
			depth = max(depth, open+1)
		case '(':
			open++
		case ')':
			open--
		}
	}
	for {
		less := groupForm.ReplaceAllString(stars, "*")
		if less == stars {
			break
		}
		stars = less
	}
	return ok && stars == "*" && nodes <= 64 && depth <= 8 && bytes <= 4096
}

// slowDeep is P12.3's words on ErrDeep: values are taken away, and the brackets that are left are counted.
func slowDeep(s string) bool {
	open := 0
	for _, one := range []byte(anyValue.ReplaceAllString(s, "")) {
		if one == '(' {
			open++
		}
		if one == ')' {
			open = max(open-1, 0)
		}
		if open > 8 {
			return true
		}
	}
	return false
}

// parses holds Parse against the patterns, and tells how it ends.
func parses(t *testing.T, s string) api.Errno {
	t.Helper()
	want := api.ErrSyntax
	if isText(t, s) {
		want = api.OK
	}
	if slowDeep(s) {
		if want == api.OK {
			t.Fatalf("%q is deep, and is a text", s)
		}
		want = api.ErrDeep
	}
	m, e := match.Parse(s)
	if e != want {
		t.Fatalf("Parse(%q) = %d, not %d", s[:min(len(s), 200)], e, want)
	}
	if e != api.OK && !zero(m) {
		t.Fatalf("Parse(%q) = %+v, %d", s[:min(len(s), 200)], m, e)
	}
	if e == api.OK && (!slowCheck(m) || slowText(m) != s) {
		t.Fatalf("Parse(%q) = %+v", s, m)
	}
	return e
}

func TestText(t *testing.T) { // P12.3
	for _, x := range []struct {
		m    api.Matcher
		want string
	}{
		{and(api.Matcher{}, not(is("a", "x"))), `&(*,!(a="x"))`}, // the chapter's
		{api.Matcher{}, `*`},
		{is("a", "x"), `a="x"`}, {is("a", ""), `a=""`}, {is("a", "\"\\(\x00\xff"), `a="\"\\(\x00\xff"`},
		{isnt("b_1", "x"), `b_1!="x"`}, {isnt("a", ""), `a!=""`}, {isnt("a", `"`), `a!="\""`},
		{begins("a", "x"), `a^="x"`}, {begins("a", ""), `a^=""`}, {begins("a", "\n"), `a^="\x0a"`},
		{among("name", "v", "w"), `name@("v","w")`}, {among("a", ""), `a@("")`}, {among("a", `"`, `\`), `a@("\"","\\")`}, {among("a", ",", "x\x7f"), `a@(",","x\x7f")`},
		{and(), `&()`}, {or(), `|()`}, {and(api.Matcher{}), `&(*)`}, {or(or()), `|(|())`},
		{or(is("a", "x"), isnt("b", "y"), begins("c", "z")), `|(a="x",b!="y",c^="z")`}, {not(api.Matcher{}), `!(*)`}, {not(not(and())), `!(!(&()))`},
		{and(or(is("a", "1"), among("b", "2", "3")), not(api.Matcher{})), `&(|(a="1",b@("2","3")),!(*))`},
	} {
		if got := match.Text(x.m); got != x.want || slowText(x.m) != x.want {
			t.Errorf("Text(%+v) = %s, not %s", x.m, got, x.want)
		}
		if got, e := match.Parse(x.want); !equal(got, x.m) || e != api.OK {
			t.Errorf("Parse(%s) = %+v, %d", x.want, got, e)
		}
	}
}

func TestTextIsParsed(t *testing.T) { // P12.3: the matcher is its text's
	seen := map[string]api.Matcher{}
	for _, m := range right() {
		s := match.Text(m)
		if s != slowText(m) {
			t.Fatalf("Text(%+v) = %s", m, s)
		}
		if got, e := match.Parse(s); !equal(got, m) || !match.Same(got, m) || e != api.OK {
			t.Fatalf("Parse(%s) = %+v, %d", s, got, e)
		}
		if e := parses(t, s); e != api.OK {
			t.Fatalf("%s is no text: %d", s, e)
		}
		if other, ok := seen[s]; ok && !equal(other, m) {
			t.Fatalf("%s is the text of two", s)
		}
		seen[s] = m
	}
}

func TestTextOfEachByte(t *testing.T) { // P12.3
	for one := range 256 {
		s := string([]byte{byte(one)})
		for _, v := range []string{s, "a" + s + "b", s + `"`, `\` + s} {
			for _, m := range []api.Matcher{is("a", v), isnt("a", v), begins("a", v), among("a", "", v), and(is("a", v), is("b", v))} {
				got, e := match.Parse(match.Text(m))
				if match.Text(m) != slowText(m) || !equal(got, m) || e != api.OK {
					t.Errorf("%+v: %s is parsed as %+v, %d", m, match.Text(m), got, e)
				}
			}
		}
	}
}

func TestTextOfWrongOnes(t *testing.T) { // P12.3: what the words make of them is parsed only where it is another one's text; R1
	for _, m := range wrong() {
		if slices.ContainsFunc(all(m), func(one api.Matcher) bool { return one.Op < api.All || one.Op > api.Not }) {
			continue // the words make nothing of it
		}
		parses(t, slowText(m))
		if got, e := match.Parse(slowText(m)); e == api.OK && equal(got, m) {
			t.Errorf("%+v is parsed", m)
		}
	}
	for _, m := range append(wrong(), endless()...) {
		if s := match.Text(m); s != "" {
			t.Errorf("Text of one that may not be: %s", s)
		}
	}
}

func TestParseNone(t *testing.T) { // P12.3
	for _, s := range []string{
		"", " ", "**", "* ", " *", "*\n", "\x00", "\xff", "a", "_", "A", "0", "=", `"`, `""`, `"x"`, "(", ")", "()", "(*)", ",", "*,", "*,*", ",*", "&", "|", "!", "@", "^",
		"a=x", `a==""`, `a=="x"`, `a="x`, `a=x"`, `a="`, `a=`, `="x"`, `a "x"`, `a ="x"`, `a= "x"`, `a="x" `, ` a="x"`, `a="x""`, `a="x"*`, `*a="x"`, `a="x",`, `a="x",b="y"`, `a='x'`, "a=`x`",
		`A="x"`, `0="x"`, `a-="x"`, `é="x"`, `a,="x"`, strings.Repeat("n", 33) + `="x"`, `a="` + strings.Repeat("v", 65) + `"`, `a="` + strings.Repeat(`\xff`, 65) + `"`,
		`!="x"`, `a!"x"`, `a!`, `a!=`, `a! ="x"`, `a!=x`, `a!=="x"`, `a!^="x"`, `a=!"x"`, `a!("x")`, `a!(*)`, `a!=("x")`, `a!="` + strings.Repeat("v", 65) + `"`, strings.Repeat("n", 33) + `!="x"`,
		`^="x"`, `a^"x"`, `a^`, `a^=`, `a^=x`, `a=^"x"`, `a^^="x"`, `a^="` + strings.Repeat("v", 65) + `"`, `a~="x"`, `a<="x"`, `a*="x"`, `a$="x"`, `a=~"x"`,
		`@("x")`, `a@`, `a@"x"`, `a@x`, `a@(`, `a@()`, `a@)`, `a@(x)`, `a@("x"`, `a@("x`, `a@("x",`, `a@("x",)`, `a@(,"x")`, `a@("x" "y")`, `a@("x","y"`, `a@("x"),`, `a@("x"))`, `a@(("x"))`, `a@("x")"y"`, `a@="x"`, `a@=("x")`, `a@ ("x")`, `a@("x", "y")`, `a@("x";"y")`, `a@(*)`, `a@(a="x")`, `a@[]`,
		`a@("b","a")`, `a@("a","a")`, `a@("","")`, `a@("a","b","b")`, `a@("aa","a")`, `a@("\xff","\x80")`, `a@("a",",","b")`, `A@("x")`, slowText(among("a", steps(17, 1)...)), `a@("` + strings.Repeat("v", 65) + `")`, strings.Repeat("n", 33) + `@("x")`,
		`&*`, `&(`, `&)`, `&(*`, `&*)`, `&(*,`, `&(*,)`, `&(,)`, `&(,*)`, `&(*,,*)`, `&(**)`, `&(* *)`, `&( )`, `&( *)`, `&(*, *)`, `& (*)`, `&(*))`, `&((*))`, `&(*)(*)`, `&&(*)`, `&[*]`, `&(*;*)`, `&(*)&(*)`, `&()()`, `&(),`, `&("x")`, `&(a)`, `&(x,y)`, `&(a="x"`, `&(a="x)`, `&(a="x",b="y)`,
		`|*`, `|(`, `|(*`, `|(*,)`, `||(*)`, `|(|(*)`, `|(*)|`, `|&(*)`,
		`!*`, `!(`, `!()`, `!(*`, `!(*,*)`, `!(*,)`, `!(,*)`, `!!(*)`, `!(!())`, `!a="x"`, `!(a)`, `!(*)*`, `!((*))`,
		`a="\"`, `a="\x4"`, `a="\x41"`, `a="\xFF"`, `a="\n"`, "a=\"\n\"", "a=\"\x7f\"", "a=\"\xff\"", `a="é"`, `a="\x5c"`, `a="\x22"`, `a@("\x20")`, `a!="\x7e"`, `a^="\'"`,
		`<nil>`, `true`, `{}`, `[]`, `*=“x”`, "＊",
	} {
		if m, e := match.Parse(s); !zero(m) || e != api.ErrSyntax {
			t.Errorf("Parse(%q) = %+v, %d", s, m, e)
		}
		parses(t, s)
		for _, round := range []string{"&(" + s + ")", "|(*," + s + ")", "!(" + s + ")"} {
			parses(t, round)
		}
	}
}

func TestParseBounds(t *testing.T) { // P12.3: texts of matchers that are just allowed, and just not
	long := strings.Repeat("n", 32)
	for _, x := range []struct {
		s    string
		want api.Errno
	}{
		{"&(" + strings.Repeat("*,", 62) + "*)", api.OK}, {"&(" + strings.Repeat("*,", 63) + "*)", api.ErrSyntax},
		{"|(&(" + strings.Repeat("*,", 61) + "*))", api.OK}, {"|(&(" + strings.Repeat("*,", 62) + "*))", api.ErrSyntax},
		{"&(" + strings.Repeat("|(*,*),", 20) + "|(*,*))", api.OK}, {"&(" + strings.Repeat("|(*,*),", 20) + "|(*,*),*)", api.ErrSyntax},
		{slowText(under(7, api.Matcher{})), api.OK}, {slowText(under(8, api.Matcher{})), api.ErrSyntax}, {slowText(under(9, api.Matcher{})), api.ErrDeep},
		{slowText(under(7, and())), api.OK}, {slowText(under(8, and())), api.ErrDeep}, {slowText(under(7, among("a", "x"))), api.OK}, {slowText(under(8, among("a", "x"))), api.ErrDeep}, {slowText(under(8, is("a", "("))), api.ErrSyntax}, {slowText(under(7, is("a", "(("))), api.OK},
		{slowText(filled(4096)), api.OK}, {slowText(filled(4097)), api.ErrSyntax}, {slowText(under(3, filled(4096))), api.OK}, {slowText(under(3, filled(4097))), api.ErrSyntax},
		{long + `="x"`, api.OK}, {long + `n="x"`, api.ErrSyntax}, {`a@(` + strings.Repeat(`"x",`, 16) + `"x")`, api.ErrSyntax}, {slowText(among("a", steps(16, 64)...)), api.OK},
		{`a="` + strings.Repeat(`\xff`, 64) + `"`, api.OK}, {`a^="` + strings.Repeat(`"`, 64) + `"`, api.ErrSyntax}, {`a^="` + strings.Repeat(`\"`, 64) + `"`, api.OK}, {`a!="` + strings.Repeat(`\\`, 65) + `"`, api.ErrSyntax},
	} {
		if e := parses(t, x.s); e != x.want {
			t.Errorf("Parse(%s) = %d, not %d", x.s, e, x.want)
		}
	}
}

func TestParseDeep(t *testing.T) { // P12.3: ErrDeep comes first, whatever else is wrong, and wherever
	nine, eight := strings.Repeat("(", 9), strings.Repeat("(", 8)
	for _, x := range []struct {
		s    string
		want api.Errno
	}{
		{nine, api.ErrDeep}, {eight, api.ErrSyntax}, {nine + ")", api.ErrDeep}, {eight + ")(", api.ErrSyntax}, {eight + ")((", api.ErrDeep}, {")))" + eight, api.ErrSyntax}, {")))" + nine, api.ErrDeep}, {"())))" + eight, api.ErrSyntax},
		{"x" + nine, api.ErrDeep}, {"a=x" + nine, api.ErrDeep}, {"*" + nine + ")))))))))", api.ErrDeep}, {nine + `"`, api.ErrDeep}, {nine + "\xff\x00", api.ErrDeep}, {"\x00" + nine, api.ErrDeep}, {"* " + nine, api.ErrDeep},
		{`"` + nine, api.ErrSyntax}, {`"x` + nine, api.ErrSyntax}, {`""` + nine, api.ErrDeep}, {`"x"` + nine, api.ErrDeep}, {`"\"` + nine, api.ErrSyntax}, {`"\""` + nine, api.ErrDeep}, {`"\\"` + nine, api.ErrDeep}, {`"\\\"` + nine, api.ErrSyntax}, {`"\\\""` + nine, api.ErrDeep},
		{`"\`, api.ErrSyntax}, {`\"` + nine, api.ErrSyntax}, {`\` + nine, api.ErrDeep}, {`\\"` + nine, api.ErrSyntax}, {`\""` + nine, api.ErrDeep}, {`"\x` + nine, api.ErrSyntax}, {"\"\n" + nine + "\"", api.ErrSyntax}, {"\"\n\"" + nine, api.ErrDeep}, {"\"\\\n\"" + nine, api.ErrDeep}, {"\"\\\xff\"" + nine, api.ErrDeep}, {`"\é"` + nine, api.ErrDeep}, {`"é\"` + nine, api.ErrSyntax},
		{eight + `"("`, api.ErrSyntax}, {eight + `"("(`, api.ErrDeep}, {eight + `")"(`, api.ErrDeep}, {eight + `)"("(`, api.ErrSyntax}, {eight[:4] + `"("` + eight[:4], api.ErrSyntax}, {eight[:4] + `"` + eight[:5], api.ErrSyntax},
		{strings.Repeat("()", 1000), api.ErrSyntax}, {strings.Repeat("&(", 9), api.ErrDeep}, {strings.Repeat("&(", 8), api.ErrSyntax}, {strings.Repeat("!(", 8) + "*" + strings.Repeat(")", 8), api.ErrSyntax}, {strings.Repeat("!(", 9) + "*" + strings.Repeat(")", 9), api.ErrDeep},
		{strings.Repeat("|(", 7) + "*" + strings.Repeat(")", 7) + nine, api.ErrDeep}, {strings.Repeat("[", 20), api.ErrSyntax}, {strings.Repeat("（", 20), api.ErrSyntax},
	} {
		if m, e := match.Parse(x.s); e != x.want || !zero(m) {
			t.Errorf("Parse(%q) = %d, not %d", x.s, e, x.want)
		}
		parses(t, x.s)
	}
	for open := range 12 {
		for back := range 12 {
			for again := range 12 {
				s := strings.Repeat("(", open) + strings.Repeat(")", back) + strings.Repeat("(", again)
				deep := open > 8 || max(open-back, 0)+again > 8
				if _, e := match.Parse(s); (e == api.ErrDeep) != deep {
					t.Errorf("Parse(%s) = %d", s, e)
				}
			}
		}
	}
}

func TestParseLong(t *testing.T) { // R1: it ends, and calls within one another are few, however long the text
	const n = 1 << 20
	for _, x := range []struct {
		s    string
		want api.Errno
	}{
		{strings.Repeat("!(", n), api.ErrDeep}, {strings.Repeat("(", n), api.ErrDeep}, {strings.Repeat(")", n), api.ErrSyntax}, {strings.Repeat("!", n), api.ErrSyntax}, {strings.Repeat("*", n), api.ErrSyntax},
		{"&(" + strings.Repeat("*,", n) + "*)", api.ErrSyntax}, {"&(" + strings.Repeat("&(),", n) + "*)", api.ErrSyntax}, {"&(" + strings.Repeat("|(*),", n) + "*)", api.ErrSyntax},
		{"a@(" + strings.Repeat(`"",`, n) + `"")`, api.ErrSyntax}, {strings.Repeat("a", n), api.ErrSyntax}, {strings.Repeat("a", n) + `="x"`, api.ErrSyntax}, {`a="` + strings.Repeat("x", n) + `"`, api.ErrSyntax}, {`a="` + strings.Repeat("x", n), api.ErrSyntax}, {`a="` + strings.Repeat(`\`, n), api.ErrSyntax}, {strings.Repeat(`"`, n), api.ErrSyntax}, {strings.Repeat("&()", n), api.ErrSyntax},
	} {
		if m, e := match.Parse(x.s); e != x.want || !zero(m) {
			t.Errorf("Parse(%q and so on) = %d, not %d", x.s[:20], e, x.want)
		}
	}
}

func TestParseAllShort(t *testing.T) { // P12.3: each text of few bytes, as the patterns say
	const few = `*&|!(),a="@^`
	n := map[api.Errno]int{}
	var grow func(s string, left int)
	grow = func(s string, left int) {
		n[parses(t, s)]++
		for i := range len(few) {
			if left > 0 {
				grow(s+few[i:i+1], left-1)
			}
		}
	}
	grow("", 5)
	for _, round := range []string{`&(`, `!(`, `|(*,`, `a@("`, `a@("a`, `a="`, `!(a!="`} {
		grow(round, 4)
	}
	if n[api.OK] < 100 || n[api.ErrSyntax] < 100000 {
		t.Errorf("%v", n)
	}
}

func TestParseCutAndTurned(t *testing.T) { // P12.3: cut at every place, a byte more at every place, a byte turned
	n := map[api.Errno]int{}
	var some []string
	for _, m := range right() {
		if s := match.Text(m); len(s) < 60 {
			some = append(some, s)
		}
	}
	slices.Sort(some)
	for _, s := range slices.Compact(some) {
		for at := range len(s) + 1 {
			n[parses(t, s[:at])]++
			n[parses(t, s[at:])]++
			for _, more := range []string{`"`, `\`, ",", "=", "!", "^", "@", "(", ")", "&", "|", "*", " ", "a", "0", "A", "\x00", "\xff", "((((((", "!(", "))"} {
				n[parses(t, s[:at]+more+s[at:])]++
			}
			if at < len(s) {
				n[parses(t, s[:at]+s[at+1:])]++
				for bit := range 8 {
					n[parses(t, s[:at]+string([]byte{s[at] ^ 1<<bit})+s[at+1:])]++
				}
			}
		}
	}
	if n[api.OK] < 1000 || n[api.ErrSyntax] < 1000 || n[api.ErrDeep] < 100 {
		t.Errorf("%v", n)
	}
}

func TestParseOfAny(t *testing.T) { // P12.3: pieces of texts in any order
	d := draws(7)
	pieces := []string{"*", "&(", "|(", "!(", ")", ")", ",", `a="x"`, `b!=""`, `c^="("`, `a@("x")`, `a@("","y")`, `"`, `\`, `\"`, "a", "=", "@(", `"x"`, "(", " "}
	n := map[api.Errno]int{}
	for range 80000 {
		s := ""
		for range 1 + d.below(24) {
			s += pieces[d.below(len(pieces))]
		}
		n[parses(t, s)]++
		n[parses(t, s+strings.Repeat(")", max(strings.Count(s, "(")-strings.Count(s, ")"), 0)))]++
	}
	if n[api.OK] < 1000 || n[api.ErrSyntax] < 1000 || n[api.ErrDeep] < 100 {
		t.Errorf("%v", n)
	}
}

func TestParseIsNewMemory(t *testing.T) { // R3, R4: no two answers, and no two lists of one, have anything in common
	for _, m := range right()[:150] {
		s := match.Text(m)
		one, _ := match.Parse(s)
		two, _ := match.Parse(s)
		spoiled(one)
		three, _ := match.Parse(s)
		if !equal(two, m) || !equal(three, m) {
			t.Fatalf("the answers became %+v and %+v", two, three)
		}
		apart(t, func() api.Matcher {
			got, _ := match.Parse(s)
			return got
		})
	}
}
