package tests

import (
	"bytes"
	"regexp"
	"slices"
	"strings"
	"testing"

	"loop.example/g00785/impl"
)

var (
	quotedForm  = regexp.MustCompile(`(?s)^"(.*)"$`)
	escapedByte = regexp.MustCompile(`(?s)\\(.)`)
	angleForm   = regexp.MustCompile(`(?s)^(.*)<([^<]*)>$`)
	specForm    = regexp.MustCompile(`^([!-;=?-~]+)@([!-;=?A-~]+)$`)
)

// unquoteText is Unquote as the document words it.
func unquoteText(s string) string {
	s = strings.Trim(s, " \t")
	if found := quotedForm.FindStringSubmatch(s); found != nil {
		return escapedByte.ReplaceAllString(found[1], "$1")
	}
	return s
}

func checkUnquote(t *testing.T, s string, want string) {
	t.Helper()
	if got := impl.Unquote(s); got != want {
		t.Errorf("Unquote(%.60q) = %.60q, want %.60q", s, got, want)
	}
}

func TestUnquote(t *testing.T) {
	for _, x := range [][2]string{
		{``, ``}, {` `, ``}, {" \t ", ``}, {`a`, `a`}, {` a b `, `a b`}, {"\t a\t\t b \t", "a\t\t b"},
		{`"`, `"`}, {` " `, `"`}, {`""`, ``}, {` "" `, ``}, {"\t\"\"\t", ``}, {`"""`, `"`}, {`""""`, `""`},
		{`"a"`, `a`}, {` "a" `, `a`}, {"\t\"a b\" \t", `a b`}, {`" a "`, ` a `}, {` "  " `, `  `}, {"\"\t\"", "\t"},
		{`"a`, `"a`}, {`a"`, `a"`}, {`a"b"`, `a"b"`}, {`"a"b`, `"a"b`}, {`"a" "b"`, `a" "b`}, {`"a"b"`, `a"b`}, {`'a'`, `'a'`},
		{"\u00a0\"a\"", "\u00a0\"a\""}, {"\"a\"\r\n", "\"a\"\r\n"}, {"\v\"a\"", "\v\"a\""}, {"\"a\"\x00", "\"a\"\x00"}, {"\"\r\n\x00\xff\"", "\r\n\x00\xff"}, {"\"caf\u00e9, x\"", "caf\u00e9, x"},
		{`<"a">`, `<"a">`}, {`"a,b <c>"`, `a,b <c>`},
	} {
		checkUnquote(t, x[0], x[1])
	}
}

func TestUnquoteOfBackslashes(t *testing.T) {
	for _, x := range [][2]string{
		{`"a\"b"`, `a"b`}, {`"\""`, `"`}, {`"\"\""`, `""`}, {`"a\\b"`, `a\b`}, {`"\\"`, `\`}, {`"\\\\"`, `\\`}, {`"\\\""`, `\"`}, {`"\\\\\""`, `\\"`},
		{`"\a"`, `a`}, {`"\a\b"`, `ab`}, {`"a\ b"`, `a b`}, {`"\,\<"`, `,<`}, {`"\n"`, `n`}, {"\"\\\x00\\\n\\\xff\"", "\x00\n\xff"}, {"\"\\\u00e9\"", "\u00e9"},
		{`"\"`, `\`}, {`"a\"`, `a\`}, {`"\\\"`, `\\`}, {`"a\b\"`, `ab\`}, {`"\"\"`, `"\`}, {`"a\\\"`, `a\\`}, {`"\\\\\"`, `\\\`}, {` "\" `, `\`}, {"\"\\\t\"", "\t"},
		{`\"a\"`, `\"a\"`}, {`\`, `\`}, {`\\`, `\\`}, {`a\b`, `a\b`}, {`\"`, `\"`}, {`"\`, `"\`}, {`"a\"b`, `"a\"b`}, {`\"a"`, `\"a"`}, {`\ `, `\`}, {`a \"b\" `, `a \"b\"`},
	} {
		checkUnquote(t, x[0], x[1])
	}
	for _, c := range []byte(allBytes()) {
		s := string([]byte{c})
		checkUnquote(t, `"a\`+s+`b"`, "a"+s+"b")
		checkUnquote(t, `"\`+s+`"`, s)
		checkUnquote(t, `"a\\`+s+`"`, unquoteText(`"a\\`+s+`"`))
		checkUnquote(t, `a\`+s+`b`, `a\`+s+`b`)
		checkUnquote(t, s+`a`+s, unquoteText(s+`a`+s))
	}
}

func TestUnquoteByRule(t *testing.T) {
	for _, s := range append(textsOf("\"\\ a\t", 7), textsOf("\"\\\r\n", 6)...) {
		if got, want := impl.Unquote(s), unquoteText(s); got != want {
			t.Fatalf("Unquote(%q) = %q, want %q", s, got, want)
		}
	}
}

// TestUnquoteRecoversQuoted quotes texts and reads them again, with and without blanks around them.
func TestUnquoteRecoversQuoted(t *testing.T) {
	for _, s := range append(append(textsOf("\"\\ ,", 6), textsOf(allBytes(), 2)...), sizedTexts()...) {
		for _, form := range []string{impl.Quote(s), " " + impl.Quote(s), impl.Quote(s) + "\t", "\t " + impl.Quote(s) + " \t"} {
			if got := impl.Unquote(form); got != s {
				t.Fatalf("Unquote(%q) = %q, want %q", form, got, s)
			}
		}
	}
}

// counts reports whether the byte at i is a double quote that begins or ends a quoted section.
func counts(s string, i int) bool {
	before := len(s[:i]) - len(strings.TrimRight(s[:i], `\`))
	return s[i] == '"' && before%2 == 0
}

// commaParts is Commas as the document words it: it goes from one quoted section to the next.
func commaParts(s string) []string {
	inside := make([]bool, len(s))
	for i := 0; i < len(s); i++ {
		if !counts(s, i) {
			continue
		}
		for inside[i] = true; i+1 < len(s); {
			i++
			inside[i] = true
			if counts(s, i) {
				break
			}
		}
	}
	list := []string{}
	part := ""
	for i := range len(s) + 1 {
		if i < len(s) && (s[i] != ',' || inside[i]) {
			part += s[i : i+1]
			continue
		}
		if part = strings.Trim(part, " \t"); part != "" {
			list = append(list, part)
		}
		part = ""
	}
	return list
}

func checkCommas(t *testing.T, s string, want ...string) {
	t.Helper()
	if got := impl.Commas(s); !slices.Equal(got, want) {
		t.Errorf("Commas(%q) = %q, want %q", s, got, want)
	}
}

func TestCommas(t *testing.T) {
	checkCommas(t, "")
	checkCommas(t, ",")
	checkCommas(t, ",,,")
	checkCommas(t, " ")
	checkCommas(t, "\t")
	checkCommas(t, " , ")
	checkCommas(t, " ,\t, \t ,")
	checkCommas(t, "a", "a")
	checkCommas(t, " a b\t", "a b")
	checkCommas(t, "a,b", "a", "b")
	checkCommas(t, "a,a,a", "a", "a", "a")
	checkCommas(t, "a, b ,\tc\t, d", "a", "b", "c", "d")
	checkCommas(t, "a,,b", "a", "b")
	checkCommas(t, "a,,,,b", "a", "b")
	checkCommas(t, "a, ,\t,b", "a", "b")
	checkCommas(t, ",a", "a")
	checkCommas(t, "a,", "a")
	checkCommas(t, ",,a,,", "a")
	checkCommas(t, " , a , ", "a")
	checkCommas(t, "a;b", "a;b")
	checkCommas(t, "a\r\n,\n", "a\r\n", "\n")
	checkCommas(t, "\v,\u00a0,\x00,\xff", "\v", "\u00a0", "\x00", "\xff")
	checkCommas(t, "(a,b),<c,d>,'e,f'", "(a", "b)", "<c", "d>", "'e", "f'")
	checkCommas(t, strings.Repeat(",", 5000)+"a"+strings.Repeat(", ", 5000), "a")
}

func TestCommasInQuotedSections(t *testing.T) {
	checkCommas(t, `"`, `"`)
	checkCommas(t, `","`, `","`)
	checkCommas(t, `"a,b"`, `"a,b"`)
	checkCommas(t, `"a,b",c`, `"a,b"`, `c`)
	checkCommas(t, `a,"b,c,d",e`, `a`, `"b,c,d"`, `e`)
	checkCommas(t, `"a,b","c,d"`, `"a,b"`, `"c,d"`)
	checkCommas(t, `"a,b" "c,d"`, `"a,b" "c,d"`)
	checkCommas(t, `"a,b"c,d"e,f"`, `"a,b"c`, `d"e,f"`)
	checkCommas(t, `a"b,c"d,e`, `a"b,c"d`, `e`)
	checkCommas(t, `"",a`, `""`, `a`)
	checkCommas(t, `"""a,b`, `"""a,b`)
	checkCommas(t, `"""",a`, `""""`, `a`)
	checkCommas(t, ` " , " , " `, `" , "`, `"`)
	checkCommas(t, `"a" , "b" ,"c"`, `"a"`, `"b"`, `"c"`)
	checkCommas(t, `'a,"b,c"'`, `'a`, `"b,c"'`)
	checkCommas(t, "\"a\r\n,b\",c", "\"a\r\n,b\"", "c")
}

func TestCommasInOpenSections(t *testing.T) {
	checkCommas(t, `",`, `",`)
	checkCommas(t, `"a,b`, `"a,b`)
	checkCommas(t, `a "b, c`, `a "b, c`)
	checkCommas(t, `a,"b,c,d`, `a`, `"b,c,d`)
	checkCommas(t, `a,b",c,`, `a`, `b",c,`)
	checkCommas(t, `"a,b","c,d`, `"a,b"`, `"c,d`)
	checkCommas(t, `"a", "b , `, `"a"`, `"b ,`)
	checkCommas(t, `"a,b\",c`, `"a,b\",c`)
	checkCommas(t, `"`+strings.Repeat("a,", 5000), `"`+strings.Repeat("a,", 5000))
}

func TestCommasBehindBackslashes(t *testing.T) {
	checkCommas(t, `\"a,b`, `\"a`, `b`)
	checkCommas(t, `\\"a,b`, `\\"a,b`)
	checkCommas(t, `\\\"a,b`, `\\\"a`, `b`)
	checkCommas(t, `\\\\"a,b`, `\\\\"a,b`)
	checkCommas(t, `"a\",b",c`, `"a\",b"`, `c`)
	checkCommas(t, `"a\\",b",c`, `"a\\"`, `b",c`)
	checkCommas(t, `"a\\\",b",c`, `"a\\\",b"`, `c`)
	checkCommas(t, `"a\\\\",b`, `"a\\\\"`, `b`)
	checkCommas(t, `"\",",a`, `"\","`, `a`)
	checkCommas(t, `"\"\",\"",a`, `"\"\",\""`, `a`)
	checkCommas(t, `"\"",a`, `"\""`, `a`)
	checkCommas(t, `"\a",b`, `"\a"`, `b`)
	checkCommas(t, `\a",b`, `\a",b`)
	checkCommas(t, `a\,b`, `a\`, `b`)
	checkCommas(t, `a\,"b,c"`, `a\`, `"b,c"`)
	checkCommas(t, `a\ "b,c"`, `a\ "b,c"`)
	checkCommas(t, `\,\,`, `\`, `\`)
	checkCommas(t, `\"\",a`, `\"\"`, `a`)
	checkCommas(t, `\""a,b"`, `\""a,b"`)
	checkCommas(t, `"a\,b\,c",d\,e`, `"a\,b\,c"`, `d\`, `e`)
	checkCommas(t, strings.Repeat(`\`, 5001)+`"a,b`, strings.Repeat(`\`, 5001)+`"a`, `b`)
	checkCommas(t, strings.Repeat(`\`, 5002)+`"a,b`, strings.Repeat(`\`, 5002)+`"a,b`)
}

func TestCommasOfEveryByte(t *testing.T) {
	for _, c := range []byte(allBytes()) {
		s := string([]byte{c})
		for _, text := range []string{s, "a" + s + "b", "a," + s + ",b", s + `"a,b"`, `"a` + s + `b",c`, `"a,` + s, s + s + `",`} {
			checkCommas(t, text, commaParts(text)...)
		}
	}
}

func TestCommasByRule(t *testing.T) {
	for _, s := range append(textsOf(",\"\\a", 8), textsOf(",\" \t\\a", 6)...) {
		if got, want := impl.Commas(s), commaParts(s); !slices.Equal(got, want) {
			t.Fatalf("Commas(%q) = %q, want %q", s, got, want)
		}
	}
}

// TestPartsBetweenCommas puts parts between commas: they are the parts.
func TestPartsBetweenCommas(t *testing.T) {
	parts := []string{"a", "a b", "(", "@", "<a@b>", `"a,b"`, `""`, `"\","`, `"a\\"`, `\"`, `\`, `a"b,c"d`, "\r\n", "\u00e9"}
	opens := []string{`"`, `"a,b`, `a ",`, `\\",,`, `"\"`}
	for _, first := range parts {
		for _, second := range parts {
			for _, third := range append(parts, opens...) {
				want := []string{first, second, third}
				for _, between := range []string{",", ", ", "\t,,", " , ,"} {
					checkCommas(t, strings.Join(want, between), want...)
				}
				checkCommas(t, " ,"+strings.Join(want, ","), want...)
			}
		}
	}
}

// TestPartsAreReadAgain joins whatever parts there are: they are the same parts again, each of them alone is one part, and nothing but commas and blanks is lost.
func TestPartsAreReadAgain(t *testing.T) {
	const left = ", \t"
	for _, s := range append(textsOf(",\"\\ a", 7), allBytes(), strings.Repeat(`a,"b,c" ,`, 999)) {
		list := impl.Commas(s)
		if again := impl.Commas(strings.Join(list, ",")); !slices.Equal(again, list) {
			t.Fatalf("Commas(%q) = %q, read again %q", s, list, again)
		}
		drop := strings.NewReplacer(",", "", " ", "", "\t", "")
		if drop.Replace(strings.Join(list, "")) != drop.Replace(s) {
			t.Fatalf("Commas(%q) = %q", s, list)
		}
		for _, part := range list {
			if part == "" || strings.Trim(part, " \t") != part || !slices.Equal(impl.Commas(left+part), []string{part}) {
				t.Fatalf("Commas(%q) has the part %q", s, part)
			}
		}
	}
}

// addrsOf is ReadAddrs as the document words it.
func addrsOf(s string) []impl.Addr {
	list := []impl.Addr{}
	for _, part := range commaParts(s) {
		name, spec := "", part
		if found := angleForm.FindStringSubmatch(part); found != nil {
			name, spec = unquoteText(found[1]), found[2]
		}
		if found := specForm.FindStringSubmatch(spec); found != nil {
			list = append(list, impl.Addr{Name: name, Box: found[1], Host: found[2]})
		}
	}
	return list
}

// checkAddrs compares ReadAddrs with the list of names, boxes and hosts in turn.
func checkAddrs(t *testing.T, s string, inTurn ...string) {
	t.Helper()
	want := []impl.Addr{}
	for a := range slices.Chunk(inTurn, 3) {
		want = append(want, impl.Addr{Name: a[0], Box: a[1], Host: a[2]})
	}
	if got := impl.ReadAddrs(s); !slices.Equal(got, want) {
		t.Errorf("ReadAddrs(%q) = %q, want %q", s, got, want)
	}
}

func TestReadAddrsOfNames(t *testing.T) {
	checkAddrs(t, "ann@a.org", "", "ann", "a.org")
	checkAddrs(t, " ann@a.org\t", "", "ann", "a.org")
	checkAddrs(t, "<ann@a.org>", "", "ann", "a.org")
	checkAddrs(t, "  <ann@a.org> ", "", "ann", "a.org")
	checkAddrs(t, "Ann <ann@a.org>", "Ann", "ann", "a.org")
	checkAddrs(t, "Ann<ann@a.org>", "Ann", "ann", "a.org")
	checkAddrs(t, "Ann  B.\tC \t <ann@a.org>", "Ann  B.\tC", "ann", "a.org")
	checkAddrs(t, `"Ann" <ann@a.org>`, "Ann", "ann", "a.org")
	checkAddrs(t, `"B, Ann" <ann@a.org>`, "B, Ann", "ann", "a.org")
	checkAddrs(t, `"B, Ann"<ann@a.org>,bob@b.org`, "B, Ann", "ann", "a.org", "", "bob", "b.org")
	checkAddrs(t, `"a\"b\\c" <x@y>`, `a"b\c`, "x", "y")
	checkAddrs(t, `" a " <x@y>`, " a ", "x", "y")
	checkAddrs(t, `"" <x@y>`, "", "x", "y")
	checkAddrs(t, `" <x@y>`, `"`, "x", "y")
	checkAddrs(t, `"a" b <x@y>`, `"a" b`, "x", "y")
	checkAddrs(t, `"a"b" <x@y>`, `a"b`, "x", "y")
	checkAddrs(t, `"a"b" <x@y>, z@z`)
	checkAddrs(t, `a\"b <x@y>`, `a\"b`, "x", "y")
	checkAddrs(t, `"a\" <x@y>`, `a\`, "x", "y")
	checkAddrs(t, "caf\u00e9 \x00\xff\r\n <x@y>", "caf\u00e9 \x00\xff\r\n", "x", "y")
	checkAddrs(t, "(a) b; c: d@e <x@y>", "(a) b; c: d@e", "x", "y")
	checkAddrs(t, `"x@y"`, "", `"x`, `y"`)
	checkAddrs(t, `"x,z"@y`, "", `"x,z"`, "y")
	checkAddrs(t, `<"x,z"@y>`, "", `"x,z"`, "y")
}

func TestReadAddrsOfAngles(t *testing.T) {
	checkAddrs(t, "<k> <m@n>", "<k>", "m", "n")
	checkAddrs(t, "a <b@c> <x@y>", "a <b@c>", "x", "y")
	checkAddrs(t, "a < b <x@y>", "a < b", "x", "y")
	checkAddrs(t, "<<x@y>", "<", "x", "y")
	checkAddrs(t, "<<<x@y>", "<<", "x", "y")
	checkAddrs(t, `"<" <x@y>`, "<", "x", "y")
	checkAddrs(t, `"a <b" <x@y>`, "a <b", "x", "y")
	checkAddrs(t, "> <x@y>", ">", "x", "y")
	checkAddrs(t, "a > b <x@y>", "a > b", "x", "y")
	checkAddrs(t, "<x@y>>")
	checkAddrs(t, "<x>@y>")
	checkAddrs(t, "<x@y> a")
	checkAddrs(t, "a <x@y> b@c")
	checkAddrs(t, "<x@y>.")
	checkAddrs(t, "<x@y>\r\n")
	checkAddrs(t, "<x@y")
	checkAddrs(t, "a<x@y")
	checkAddrs(t, "x@y>")
	checkAddrs(t, "x@y<")
	checkAddrs(t, "x@y<>")
	checkAddrs(t, "x@<y>")
	checkAddrs(t, "<x@y> <>")
	checkAddrs(t, "<x@y> <a>")
	checkAddrs(t, `"<x@y>"`)
	checkAddrs(t, `<x@y> "`)
	checkAddrs(t, "<")
	checkAddrs(t, ">")
	checkAddrs(t, "<>")
	checkAddrs(t, "><")
	checkAddrs(t, "a <>")
	checkAddrs(t, "><x@y>", ">", "x", "y")
}

func TestReadAddrsOfSpecs(t *testing.T) {
	for _, x := range [][3]string{
		{"x@y", "x", "y"}, {"a@b@c", "a@b", "c"}, {"@@c", "@", "c"}, {"@b@c", "@b", "c"}, {"a@@c", "a@", "c"}, {"a.b+c@d.e", "a.b+c", "d.e"}, {"!@~", "!", "~"},
		{"(a)@[1.2.3.4]", "(a)", "[1.2.3.4]"}, {"a:b@c;", "a:b", "c;"}, {`a\@\b`, `a\`, `\b`}, {strings.Repeat("a", 5000) + "@" + strings.Repeat("b", 5000), strings.Repeat("a", 5000), strings.Repeat("b", 5000)},
	} {
		checkAddrs(t, x[0], "", x[1], x[2])
		checkAddrs(t, "<"+x[0]+">", "", x[1], x[2])
		checkAddrs(t, "Ann <"+x[0]+"> , <> , "+x[0], "Ann", x[1], x[2], "", x[1], x[2])
	}
	for _, spec := range []string{
		"", "@", "@@", "none", "x@", "@x", "x@y@", "@@@", "x@@", "two words@x", "x@two words", "x @y", "x@ y", "a\tb@c", "x@y\r\n", "\nx@y", "x\x00@y", "x@y\x7f", "caf\u00e9@x", "x@caf\u00e9", "x@\xff", "\x80x@y", "x>@y", "x@y>z",
	} {
		checkAddrs(t, spec)
		checkAddrs(t, "<"+spec+">")
		checkAddrs(t, "Ann <"+spec+">")
		checkAddrs(t, "a@b, Ann <"+spec+">, "+spec+", c@d", "", "a", "b", "", "c", "d")
	}
	checkAddrs(t, "< x@y>")
	checkAddrs(t, "<x@y >")
	checkAddrs(t, "Ann <\tx@y>")
}

func TestReadAddrsOfEveryByte(t *testing.T) {
	for _, c := range []byte(allBytes()) {
		s := string([]byte{c})
		good := c >= 33 && c <= 126 && !strings.Contains(`<>,"`, s)
		for _, x := range [][2]string{{"a" + s + "b", "c"}, {"a", "b" + s + "c"}, {s, "b"}, {"a", s}} {
			form := x[0] + "@" + x[1]
			switch {
			case good && c != '@':
				checkAddrs(t, form, "", x[0], x[1])
				checkAddrs(t, "N <"+form+">", "N", x[0], x[1])
			case !good:
				checkAddrs(t, "N <"+form+">", flat(addrsOf("N <"+form+">"))...)
				if c != ',' && c != '"' && c != '<' {
					checkAddrs(t, "N <"+form+">")
				}
			}
			checkAddrs(t, form, flat(addrsOf(form))...)
		}
		if c != ',' && c != '"' {
			checkAddrs(t, "N"+s+"M <x@y>", "N"+s+"M", "x", "y")
		}
		checkAddrs(t, `"N`+s+`M" <x@y>`, flat(addrsOf(`"N`+s+`M" <x@y>`))...)
	}
}

// flat returns the names, boxes and hosts in turn.
func flat(list []impl.Addr) []string {
	inTurn := []string{}
	for _, a := range list {
		inTurn = append(inTurn, a.Name, a.Box, a.Host)
	}
	return inTurn
}

func TestReadAddrsInOrder(t *testing.T) {
	checkAddrs(t, "")
	checkAddrs(t, " , ,")
	checkAddrs(t, "a@b,a@b", "", "a", "b", "", "a", "b")
	checkAddrs(t, "z@z,,a@a, ,m@m,", "", "z", "z", "", "a", "a", "", "m", "m")
	checkAddrs(t, "none, z@z, @, <>, \"Q, R\" <q@r>, x@, a@a", "", "z", "z", "Q, R", "q", "r", "", "a", "a")
	checkAddrs(t, "Group: a@b, c@d;", "", "c", "d;")
	checkAddrs(t, `a@b, "c@d, e@f`, "", "a", "b")
	checkAddrs(t, `a@b, "c, <e@f>`, "", "a", "b", `"c,`, "e", "f")
	checkAddrs(t, `\", a@b, \\", c@d`, "", "a", "b")
	checkAddrs(t, `"a\", b" <c@d>, e@f`, `a", b`, "c", "d", "", "e", "f")
	checkAddrs(t, `"a\\", b" <c@d>, e@f`)
	checkAddrs(t, strings.Repeat("a@b,none,", 3), "", "a", "b", "", "a", "b", "", "a", "b")
}

// TestEveryAddressHasBoxAndHost reads whatever texts there are.
func TestEveryAddressHasBoxAndHost(t *testing.T) {
	inSpec := func(c byte) bool { return c >= 33 && c <= 126 && c != '<' && c != '>' }
	tokens := []string{"a", "@", "<", ">", ",", `"`, `\`, " ", "\x7f", "a@b", "<a@b>", "@c"}
	texts := textsOf("<>@a\", ", 6)
	for _, code := range textsOf("\x00\x01\x02\x03\x04\x05\x06\x07\x08\x09\x0a\x0b", 5) {
		s := ""
		for i := range len(code) {
			s += tokens[code[i]]
		}
		texts = append(texts, s)
	}
	for _, s := range texts {
		list := impl.ReadAddrs(s)
		if want := addrsOf(s); !slices.Equal(list, want) {
			t.Fatalf("ReadAddrs(%q) = %q, want %q", s, list, want)
		}
		for _, a := range list {
			if a.Box == "" || a.Host == "" || !everyByte(a.Box+a.Host, inSpec) || strings.Contains(a.Host, "@") {
				t.Fatalf("ReadAddrs(%q) has the address %q", s, a)
			}
		}
	}
}

// TestAddressesAreRecovered writes addresses and reads them again.
func TestAddressesAreRecovered(t *testing.T) {
	list := []impl.Addr{}
	for _, name := range append(textsOf("\"\\,<@ ", 3), "Ann", "B, Ann", "caf\u00e9", "\t", "\r\n", "\x00", strings.Repeat(`\,"`, 500), allBytes()) {
		for _, box := range []string{"a", "a@b", "@", "a.b", "(a", `\`, `\\`} {
			for _, host := range []string{"c", "c.d", "[", ";"} {
				list = append(list, impl.Addr{Name: name, Box: box, Host: host})
			}
		}
	}
	text := ""
	for _, a := range list {
		form := impl.Quote(a.Name) + " <" + a.Box + "@" + a.Host + ">"
		checkAddrs(t, form, a.Name, a.Box, a.Host)
		text += form + ", "
	}
	if got := impl.ReadAddrs(text); !slices.Equal(got, list) {
		t.Error("the addresses of a long text are not recovered")
	}
}

// addrsText is AddrText as the document words it.
func addrsText(list []impl.Addr) string {
	if len(list) == 0 {
		return "NIL"
	}
	text := ""
	for _, a := range list {
		name := "NIL"
		if a.Name != "" {
			name = stringText(a.Name)
		}
		text += "(" + name + " NIL " + stringText(a.Box) + " " + stringText(a.Host) + ")"
	}
	return "(" + text + ")"
}

func TestAddrText(t *testing.T) {
	for _, x := range []struct {
		list []impl.Addr
		text string
	}{
		{nil, `NIL`}, {[]impl.Addr{}, `NIL`}, {[]impl.Addr{{}}, `((NIL NIL "" ""))`}, {[]impl.Addr{{}, {}}, `((NIL NIL "" "")(NIL NIL "" ""))`},
		{[]impl.Addr{{Box: "a", Host: "b"}}, `((NIL NIL "a" "b"))`}, {[]impl.Addr{{Name: "n", Box: "a", Host: "b"}}, `(("n" NIL "a" "b"))`},
		{[]impl.Addr{{Name: "n", Box: "a"}, {Name: "m", Host: "b"}, {Box: "c"}, {Name: "n", Box: "a"}}, `(("n" NIL "a" "")("m" NIL "" "b")(NIL NIL "c" "")("n" NIL "a" ""))`},
		{[]impl.Addr{{Name: "NIL", Box: "nil", Host: "NIL"}}, `(("NIL" NIL "nil" "NIL"))`}, {[]impl.Addr{{Name: " ", Box: " ", Host: "\t"}}, "((\" \" NIL \" \" {1}\r\n\t))"},
		{[]impl.Addr{{Name: `a"b\c`, Box: `"a b"`, Host: `)`}}, `(("a\"b\\c" NIL "\"a b\"" ")"))`},
		{[]impl.Addr{{Name: "caf\u00e9", Box: "a\r\n", Host: "\x7f"}}, "(({5}\r\ncaf\u00e9 NIL {3}\r\na\r\n {1}\r\n\x7f))"},
		{[]impl.Addr{{Name: "n", Box: xs(60), Host: xs(61)}}, `(("n" NIL "` + xs(60) + "\" {61}\r\n" + xs(61) + "))"},
		{[]impl.Addr{{Name: xs(61), Box: xs(400), Host: "b"}}, "(({61}\r\n" + xs(61) + " NIL {400}\r\n" + xs(400) + ` "b"))`},
		{[]impl.Addr{{Name: "\x00", Box: "a", Host: "b"}, {Name: "n", Box: "\x00", Host: xs(401)}}, `(( NIL "a" "b")("n" NIL  ))`},
	} {
		if got := impl.AddrText(x.list); got != x.text {
			t.Errorf("AddrText(%q) = %q, want %q", x.list, got, x.text)
		}
	}
	for _, s := range append(sizedTexts(), textsOf(allBytes(), 1)...) {
		list := []impl.Addr{{Name: s, Box: "a", Host: "b"}, {Box: s, Host: "b"}, {Name: "n", Box: "a", Host: s}, {Name: s, Box: s, Host: s}}
		for to := range len(list) + 1 {
			if got, want := impl.AddrText(list[:to]), addrsText(list[:to]); got != want {
				t.Fatalf("AddrText(%.200q) = %.200q, want %.200q", list[:to], got, want)
			}
		}
	}
}

// TestAddrTextIsReadAgain reads the words of the text of addresses that were read.
func TestAddrTextIsReadAgain(t *testing.T) {
	for _, s := range []string{
		"ann@a.org", `"B, Ann" <ann@a.org>, bob@b.org`, "caf\u00e9 <a@b>, \"\r\n\" <c@d>", `") (" <(@)>, NIL <NIL@nil>`, xs(61) + " <" + xs(60) + "@" + xs(400) + ">", strings.Repeat(`"\"\\" <a@b>,`, 99),
	} {
		list := impl.ReadAddrs(s)
		text := impl.AddrText(list)
		at := 1
		for _, a := range list {
			if text[at] != '(' {
				t.Fatalf("AddrText(%q) = %q has no address at %d", list, text, at)
			}
			at++
			for i, want := range []string{a.Name, "NIL", a.Box, a.Host} {
				value, next := impl.GetWord(text, at)
				isNil := want == "" || i == 1
				if next < 0 || isNil && text[at:next] != "NIL" || !isNil && (value != want || next-at == len(want)) {
					t.Fatalf("AddrText(%q) = %q, at %d %q, want %q", list, text, at, value, want)
				}
				at = next + 1
			}
			if text[at-1] != ')' {
				t.Fatalf("AddrText(%q) = %q has no end at %d", list, text, at-1)
			}
		}
		if len(list) == 0 || text[0] != '(' || text[at:] != ")" {
			t.Fatalf("AddrText(%q) = %q", list, text)
		}
	}
}

// TestAddrLeavesArguments calls every function of the chapter on odd and long arguments and checks that they stay as they were and that no result is shared.
func TestAddrLeavesArguments(t *testing.T) {
	for _, s := range []string{
		"", allBytes(), xs(200000), strings.Repeat(",", 200000), strings.Repeat(`"`, 200001), strings.Repeat(`\`, 200001), `"` + strings.Repeat(`\"`, 100000) + `"`, strings.Repeat("<", 200000) + ">",
		strings.Repeat("@", 200000), strings.Repeat(" ", 200000), strings.Repeat("a@b,", 50000), strings.Repeat(`"a, \" b" <c@d> ,`, 20000), strings.Repeat("a ", 100000) + "<x@y>", "<" + strings.Repeat("a@", 100000) + "b>",
	} {
		kept := bytes.Clone([]byte(s))
		if impl.Unquote(s) != unquoteText(s) {
			t.Errorf("Unquote of %.20q = %.20q", s, impl.Unquote(s))
		}
		parts := impl.Commas(s)
		ownParts := slices.Clone(parts)
		for i := range parts {
			parts[i] = "changed"
		}
		_ = append(parts, "more")
		list := impl.ReadAddrs(s)
		ownList := slices.Clone(list)
		for i := range list {
			list[i] = impl.Addr{Name: "changed", Box: "changed", Host: "changed"}
		}
		_ = append(list, impl.Addr{})
		if !slices.Equal(impl.Commas(s), ownParts) || !slices.Equal(impl.ReadAddrs(s), ownList) {
			t.Fatalf("the parts or addresses of %.20q are not the same twice", s)
		}
		if s != string(kept) {
			t.Fatal("an argument was modified")
		}
		spare := append(make([]impl.Addr, 0, len(ownList)+9), ownList...)
		spare = append(spare, impl.Addr{Name: s, Box: s, Host: s}, impl.Addr{Name: "Spare", Box: "more", Host: "more"})
		before := slices.Clone(spare)
		for _, given := range [][]impl.Addr{spare[:0], spare[:len(ownList)], spare[:len(ownList)+1]} {
			text := impl.AddrText(given)
			if text != impl.AddrText(slices.Clip(slices.Clone(given))) || strings.Contains(text, "Spare") {
				t.Errorf("more than the list is read of %.20q", s)
			}
		}
		if !slices.Equal(spare, before) {
			t.Fatal("an argument was modified")
		}
	}
}
