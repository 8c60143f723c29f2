package tests

import (
	"bytes"
	"math"
	"regexp"
	"slices"
	"strconv"
	"strings"
	"testing"

	"loop.example/g00785/impl"
)

var (
	typeForm  = regexp.MustCompile(`^([!#-'*+\-.0-9A-Z^-~]+)[ \t]*/[ \t]*([!#-'*+\-.0-9A-Z^-~]+)$`)
	paramForm = regexp.MustCompile(`^([!#-'*+\-.0-9A-Z^-~]+)[ \t]*=[ \t]*([!#-'*+\-.0-9A-Z^-~]+|"[^"]*")$`)
	delimTail = regexp.MustCompile(`^(--)?[ \t]*(\r\n|\z)`)
)

// tokenByte reports whether a token may contain c.
func tokenByte(c byte) bool {
	return c >= 33 && c <= 126 && !strings.Contains("()<>@,;:/[]?=\"\\", string(rune(c)))
}

// readKind is ReadKind as the document words it.
func readKind(s string) (impl.Kind, bool) {
	parts := strings.Split(s, ";")
	for i := range parts {
		parts[i] = strings.Trim(parts[i], " \t")
	}
	found := typeForm.FindStringSubmatch(parts[0])
	if found == nil {
		return impl.Kind{}, false
	}
	k := impl.Kind{Type: strings.ToUpper(found[1]), Sub: strings.ToUpper(found[2])}
	for _, part := range parts[1:] {
		if part == "" {
			continue
		}
		if found = paramForm.FindStringSubmatch(part); found == nil {
			return impl.Kind{}, false
		}
		k.Params = append(k.Params, impl.Param{Name: strings.ToUpper(found[1]), Value: unquoteText(found[2])})
	}
	return k, true
}

func sameKinds(a impl.Kind, b impl.Kind) bool {
	return a.Type == b.Type && a.Sub == b.Sub && slices.Equal(a.Params, b.Params)
}

// checkKind compares ReadKind with a type and the list of names and values in turn.
func checkKind(t *testing.T, s string, kind string, namesAndValues ...string) {
	t.Helper()
	want := impl.Kind{}
	want.Type, want.Sub, _ = strings.Cut(kind, "/")
	for pair := range slices.Chunk(namesAndValues, 2) {
		want.Params = append(want.Params, impl.Param{Name: pair[0], Value: pair[1]})
	}
	if got, ok := impl.ReadKind(s); !ok || !sameKinds(got, want) {
		t.Errorf("ReadKind(%.80q) = %.80q, %v, want %.80q", s, got, ok, want)
	}
}

func checkNoKind(t *testing.T, s string) {
	t.Helper()
	if got, ok := impl.ReadKind(s); ok || !sameKinds(got, impl.Kind{}) {
		t.Errorf("ReadKind(%.80q) = %.80q, %v, want none", s, got, ok)
	}
}

func TestReadKindOfTypes(t *testing.T) {
	for _, x := range [][2]string{
		{"text/plain", "TEXT/PLAIN"}, {"TEXT/PLAIN", "TEXT/PLAIN"}, {"Text/Html", "TEXT/HTML"}, {" text/plain ", "TEXT/PLAIN"}, {"\ttext/plain\t ", "TEXT/PLAIN"},
		{"text / plain", "TEXT/PLAIN"}, {"text\t/ \tplain", "TEXT/PLAIN"}, {"text /plain", "TEXT/PLAIN"}, {"text/ plain", "TEXT/PLAIN"}, {"a/b", "A/B"},
		{"application/vnd.x-y+z", "APPLICATION/VND.X-Y+Z"}, {"!/~", "!/~"}, {"#$%&'*+-./^_`{|}", "#$%&'*+-./^_`{|}"}, {"0/9", "0/9"}, {strings.Repeat("a", 5000) + "/b", strings.Repeat("A", 5000) + "/B"},
	} {
		checkKind(t, x[0], x[1])
		checkKind(t, x[0]+";", x[1])
		checkKind(t, x[0]+" ; ;;\t; ", x[1])
		checkKind(t, x[0]+";A=b", x[1], "A", "b")
	}
	for _, s := range []string{
		"", " ", "text", "/", " / ", "text/", "text/ ", "/plain", " /plain", "\t/plain", "a/b/c", "a/b/", "/a/b", "a//b", "a/ /b", "//", "te xt/plain", "text/pl ain", "te\txt/plain", "text/plain x", "text\\plain", "text=plain",
		"text/plain\r\n", "\r\ntext/plain", "text/\nplain", "text/plain\x00", "\x7f/plain", "caf\u00e9/plain", "text/\xff", "text\u00a0/plain", "\vtext/plain", "(text)/plain", "text/plain (x)", "<text/plain>", "\"text\"/plain", "text/\"plain\"", "text/plain,", "text/plain:", "a@b/c", "a/[b]", "a/b?", "a/b=c", "=/=",
	} {
		checkNoKind(t, s)
		checkNoKind(t, s+";")
		checkNoKind(t, s+"; a=b")
		checkNoKind(t, ";"+s)
	}
	for _, s := range []string{";text/plain", " ;text/plain", "a=b;text/plain", ";;", "text;/plain", "text/;plain"} {
		checkNoKind(t, s)
	}
}

func TestReadKindOfParams(t *testing.T) {
	checkKind(t, "a/b;c=d", "A/B", "C", "d")
	checkKind(t, "a/b; c=d", "A/B", "C", "d")
	checkKind(t, "a/b;\tCharset = UTF-8 ", "A/B", "CHARSET", "UTF-8")
	checkKind(t, "a/b; x=y; x=z; X=q", "A/B", "X", "y", "X", "z", "X", "q")
	checkKind(t, "a/b;; z=1; ;a=2;\t;", "A/B", "Z", "1", "A", "2")
	checkKind(t, "a/b; format=flowed; delsp=yes", "A/B", "FORMAT", "flowed", "DELSP", "yes")
	checkKind(t, "a/b; x*0=y", "A/B", "X*0", "y")
	checkKind(t, "a/b; c=Abc; D=aBC", "A/B", "C", "Abc", "D", "aBC")
	checkKind(t, `multipart/mixed; boundary="a b"`, "MULTIPART/MIXED", "BOUNDARY", "a b")
	checkKind(t, "a/b;"+strings.Repeat("x=y;", 999), "A/B", strings.Split(strings.Repeat("X;y;", 998)+"X;y", ";")...)
	for _, part := range []string{
		"x", "x y", "x:y", "=", "=y", " = y", "x=", "x= ", "x=\t", "x==", "x==y", "x=y=z", "x=y z", "x=y\tz", "x y=z", "x\ty=z", "(x)=y", "x=(y)", "x=y,z", "x/y=z", "x=y/z", "\"x\"=y", "x=<y>", "x=y@z", "x=[y]", "x=y?", "x=y:z", `x=\`, `\x=y`, `x=y\z`,
		"x=y\r\n", "\nx=y", "x=y\x00", "x=\x7f", "caf\u00e9=y", "x=caf\u00e9", "x=\xff", "x\u00a0=y", "x=\vy",
	} {
		checkNoKind(t, "a/b;"+part)
		checkNoKind(t, "a/b; c=d; "+part)
		checkNoKind(t, "a/b; "+part+" ; c=d")
	}
}

func TestReadKindOfQuotedValues(t *testing.T) {
	for _, x := range [][2]string{
		{`""`, ``}, {`"a"`, `a`}, {`"a b"`, `a b`}, {`" a "`, ` a `}, {`" "`, ` `}, {"\"\t\"", "\t"}, {`"a=b"`, `a=b`}, {`"="`, `=`}, {`"(),:/<>?@[]"`, `(),:/<>?@[]`}, {`"AbC"`, `AbC`},
		{`"a\b"`, `ab`}, {`"a\\b"`, `a\b`}, {`"\\"`, `\`}, {`"\"`, `\`}, {`"a\"`, `a\`}, {`"\ "`, ` `}, {"\"\r\n\x00\x7f\xff\"", "\r\n\x00\x7f\xff"}, {"\"caf\u00e9\"", "caf\u00e9"}, {`"` + strings.Repeat("a ", 2000) + `"`, strings.Repeat("a ", 2000)},
	} {
		for _, around := range [][2]string{{"x=", ""}, {"x= ", " "}, {"X\t=\t", "\t"}} {
			checkKind(t, "a/b;"+around[0]+x[0]+around[1], "A/B", "X", x[1])
			checkKind(t, "a/b;"+around[0]+x[0]+around[1]+";;y=z", "A/B", "X", x[1], "Y", "z")
		}
	}
	for _, value := range []string{
		`"`, ` " `, `"""`, `""""`, `"a`, `a"`, `"a"b`, `a"b"`, `"a"b"`, `"a" b`, `"a" "b"`, `"a"b"c"`, `"\""`, `"a\"b"`, `"\"\""`, `'a b'`, `"a;b"`, `";"`, `"a"; "`, `";`, `a;"`, `"a"\`, `\"a"`, "\"a\"\r\n", "\v\"a\"", "\u201ca\u201d",
	} {
		checkNoKind(t, "a/b;x="+value)
		checkNoKind(t, "a/b; c=d; x = "+value+" ;y=z")
	}
	// Every semicolon divides, also one within quotes, so that these are two parts each.
	checkKind(t, `a/b; x=y; c="d"`, "A/B", "X", "y", "C", "d")
	checkNoKind(t, `a/b; x="y; c=d"`)
	checkNoKind(t, `a/b; x="y;c="`)
	checkNoKind(t, `a/b; x="; y="`)
}

func TestReadKindOfEveryByte(t *testing.T) {
	for _, c := range []byte(allBytes()) {
		s := string([]byte{c})
		up := string([]byte{upperByte(c)})
		for _, form := range []string{s, s + "/b", "a/" + s, "a/b" + s, "a" + s + "b", "a/b;" + s, "a/b" + s + "c=d", "a/b;c" + s + "d", "a/b;c=" + s, `a/b;c="` + s + `"`, `a/b;c="d` + s + `"e"`, `a/b;c="d"` + s, "a/b;c=" + s + `"d"`} {
			want, there := readKind(form)
			if got, ok := impl.ReadKind(form); ok != there || !sameKinds(got, want) {
				t.Errorf("ReadKind(%q) = %q, %v, want %q, %v", form, got, ok, want, there)
			}
		}
		if tokenByte(c) {
			checkKind(t, s+"a/b"+s+";"+s+"c="+s+"d", up+"A/B"+up, up+"C", s+"d")
			continue
		}
		checkNoKind(t, "a"+s+"a/b")
		checkNoKind(t, "a/b;c"+s+"c=d")
		if c != ';' {
			checkNoKind(t, "a/b"+s+"b")
			checkNoKind(t, "a/b;c=d"+s+"d")
		}
		if c != ';' && c != '"' && c != '\\' {
			checkKind(t, `a/b;c="`+s+`"`, "A/B", "C", s)
		}
	}
}

func TestReadKindByRule(t *testing.T) {
	texts := textsOf("a/ ;=\"", 7)
	for _, s := range textsOf("x=\" ;\\\t", 6) {
		texts = append(texts, "a/b;"+s)
	}
	for _, s := range texts {
		want, there := readKind(s)
		if got, ok := impl.ReadKind(s); ok != there || !sameKinds(got, want) {
			t.Fatalf("ReadKind(%q) = %q, %v, want %q, %v", s, got, ok, want, there)
		}
	}
}

// paramOf is ParamOf as the document words it.
func paramOf(k impl.Kind, name string) (string, bool) {
	for _, p := range k.Params {
		if len(p.Name) == len(name) && slices.EqualFunc([]byte(p.Name), []byte(name), func(a byte, b byte) bool { return upperByte(a) == upperByte(b) }) {
			return p.Value, true
		}
	}
	return "", false
}

func checkParam(t *testing.T, k impl.Kind, name string, value string, there bool) {
	t.Helper()
	if got, ok := impl.ParamOf(k, name); got != value || ok != there {
		t.Errorf("ParamOf(%.80q, %.80q) = %.80q, %v, want %.80q, %v", k, name, got, ok, value, there)
	}
}

func TestParamOf(t *testing.T) {
	k, _ := impl.ReadKind(`a/b; x=1; X=2; y=""; Z="c d"; x=3; zz=4`)
	for _, x := range [][2]string{{"x", "1"}, {"X", "1"}, {"y", ""}, {"Y", ""}, {"z", "c d"}, {"Z", "c d"}, {"zz", "4"}, {"ZZ", "4"}, {"zZ", "4"}} {
		checkParam(t, k, x[0], x[1], true)
	}
	for _, name := range []string{"", " ", "x ", " x", "xx", "zzz", "a", "1", "a/b", "TYPE", "X=1", "\x00", "\u017f", allBytes()} {
		checkParam(t, k, name, "", false)
		checkParam(t, impl.Kind{}, name, "", false)
		checkParam(t, impl.Kind{Type: name, Sub: name}, name, "", false)
		checkParam(t, impl.Kind{Params: []impl.Param{{Name: "q", Value: name}, {Name: name, Value: "1"}, {Name: name, Value: "2"}}}, name, "1", true)
	}
	// Names that ReadKind never returns.
	odd := impl.Kind{Params: []impl.Param{{Name: "lower", Value: "1"}, {Name: "LOWER", Value: "2"}, {Name: "", Value: "3"}, {Name: "a=b", Value: "4"}, {Name: "k", Value: ""}, {Name: "K", Value: "5"}, {Name: "caf\u00e9", Value: "6"}, {Name: "\u212a", Value: "7"}}}
	for _, x := range [][2]string{{"Lower", "1"}, {"LOWER", "1"}, {"", "3"}, {"A=B", "4"}, {"K", ""}, {"CAF\u00e9", "6"}, {"\u212a", "7"}} {
		checkParam(t, odd, x[0], x[1], true)
	}
	checkParam(t, odd, "CAF\u00c9", "", false)
	for _, c := range []byte(allBytes()) {
		for _, d := range []byte(allBytes()) {
			k := impl.Kind{Params: []impl.Param{{Name: string([]byte{c}), Value: "first"}, {Name: "a", Value: "a"}, {Name: "@", Value: "at"}}}
			want, there := paramOf(k, string([]byte{d}))
			checkParam(t, k, string([]byte{d}), want, there)
		}
	}
}

// delimsOf is Delims as the document words it, by looking at every index.
func delimsOf(raw string, from int, to int, mark string) [][3]int {
	list := [][3]int{}
	if from < 0 || from > to || to > len(raw) || len(mark) < 1 || len(mark) > 70 {
		return list
	}
	for i := from; i <= to; i++ {
		if i != from && (i < from+2 || raw[i-2:i] != "\r\n") {
			continue
		}
		rest, marked := strings.CutPrefix(raw[i:to], "--"+mark)
		tail := delimTail.FindStringSubmatch(rest)
		if !marked || tail == nil {
			continue
		}
		next := i + 2 + len(mark) + len(tail[0])
		if tail[1] != "" {
			return append(list, [3]int{i, next, 1})
		}
		list = append(list, [3]int{i, next, 0})
	}
	return list
}

// checkDelims compares Delims of the whole of a text with a list.
func checkDelims(t *testing.T, raw string, mark string, want ...[3]int) {
	t.Helper()
	if got := impl.Delims(raw, 0, len(raw), mark); !slices.Equal(got, want) {
		t.Errorf("Delims(%.80q, 0, %d, %.80q) = %v, want %v", raw, len(raw), mark, got, want)
	}
}

func TestDelims(t *testing.T) {
	checkDelims(t, "--b", "b", [3]int{0, 3, 0})
	checkDelims(t, "--b\r\n", "b", [3]int{0, 5, 0})
	checkDelims(t, "\r\n--b\r\n", "b", [3]int{2, 7, 0})
	checkDelims(t, "x\r\n--b", "b", [3]int{3, 6, 0})
	checkDelims(t, "x\r\n--b\r\ny\r\n--b--\r\nz", "b", [3]int{3, 8, 0}, [3]int{11, 18, 1})
	checkDelims(t, "--b\r\n\r\n--b", "b", [3]int{0, 5, 0}, [3]int{7, 10, 0})
	checkDelims(t, "--b \t \r\nx", "b", [3]int{0, 8, 0})
	checkDelims(t, "--b \t ", "b", [3]int{0, 6, 0})
	checkDelims(t, "--b--\t\r\nx", "b", [3]int{0, 8, 1})
	checkDelims(t, "--b-- ", "b", [3]int{0, 6, 1})
	checkDelims(t, "\r\r\n--b\r\n", "b", [3]int{3, 8, 0})
	checkDelims(t, strings.Repeat("--b\r\n", 3)+"--b--", "b", [3]int{0, 5, 0}, [3]int{5, 10, 0}, [3]int{10, 15, 0}, [3]int{15, 20, 1})
	checkDelims(t, "--a b\r\n", "a b", [3]int{0, 7, 0})
	checkDelims(t, "---\r\n-----\r\n", "-", [3]int{0, 5, 0}, [3]int{5, 12, 1})
}

func TestDelimsBehindEachOther(t *testing.T) {
	checkDelims(t, "--b\r\n--b\r\n", "b", [3]int{0, 5, 0}, [3]int{5, 10, 0})
	checkDelims(t, "--b\r\n--b", "b", [3]int{0, 5, 0}, [3]int{5, 8, 0})
	checkDelims(t, "--b\r\n--b--", "b", [3]int{0, 5, 0}, [3]int{5, 10, 1})
	checkDelims(t, "--b--\r\n--b\r\n", "b", [3]int{0, 7, 1})
	checkDelims(t, "--b--\r\n--b--\r\n--b\r\n", "b", [3]int{0, 7, 1})
	checkDelims(t, "--b\r\nx\r\n--b--\r\ny\r\n--b\r\n--b--\r\n", "b", [3]int{0, 5, 0}, [3]int{8, 15, 1})
	checkDelims(t, "--b\r\n--c\r\n--b\r\n", "c", [3]int{5, 10, 0})
	checkDelims(t, "--b\r\n--bb\r\n--b--\r\n", "b", [3]int{0, 5, 0}, [3]int{11, 18, 1})
	checkDelims(t, "--b\r\n--bb\r\n--b--\r\n", "bb", [3]int{5, 11, 0})
}

func TestDelimsOfOtherLines(t *testing.T) {
	for _, raw := range []string{
		"", "b", "-", "--", "-b", "-b\r\n", "b--\r\n", " --b\r\n", "\t--b", "x--b\r\n", "---b\r\n", "--bx\r\n", "--bx", "--b x\r\n", "--b\tx", "--b x", "--B\r\n", "--b-\r\n", "--b-", "--b---\r\n", "--b--x\r\n", "--b--x", "--b-- x\r\n", "--b--\tx", "--b --\r\n", "--b --", "--b----\r\n", "--b- -\r\n",
		"--b\r", "--b\n", "--b\rx\r\n", "--b\n--b\n", "--b\r\r\n", "--b \r", "--b--\r", "--b--\n", "--b\n\r\n", "x\n--b\n", "x\r--b\r", "\n--b\r\n", "\r--b\r\n", "\n\r--b", "\r\n\n--b", "\r\n\r--b", "--b\v\r\n", "--b\x00", "--b\u00a0\r\n", "- -b\r\n", "--\r\nb\r\n", "\r\n --b\r\n",
	} {
		checkDelims(t, raw, "b")
		checkDelims(t, "x\r\n"+raw, "b")
		checkDelims(t, raw+"\r\n--b", "b", delimsOf(raw+"\r\n--b", 0, len(raw)+5, "b")...)
	}
}

func TestDelimsOfRanges(t *testing.T) {
	raw := "x\r\n--b\r\ny\r\n--b--\r\n"
	for _, x := range []struct {
		from, to int
		want     [][3]int
	}{
		{0, 18, [][3]int{{3, 8, 0}, {11, 18, 1}}}, {1, 18, [][3]int{{3, 8, 0}, {11, 18, 1}}}, {3, 18, [][3]int{{3, 8, 0}, {11, 18, 1}}}, {3, 6, [][3]int{{3, 6, 0}}}, {3, 8, [][3]int{{3, 8, 0}}}, {8, 18, [][3]int{{11, 18, 1}}}, {11, 18, [][3]int{{11, 18, 1}}},
		{3, 16, [][3]int{{3, 8, 0}, {11, 16, 1}}}, {3, 14, [][3]int{{3, 8, 0}, {11, 14, 0}}},
		// The line end in front does not lie in the range, but for the delimiter at its beginning.
		{2, 8, nil}, {2, 18, [][3]int{{11, 18, 1}}}, {10, 18, nil}, {9, 18, [][3]int{{11, 18, 1}}},
		// The range ends within a delimiter line.
		{3, 7, nil}, {3, 5, nil}, {3, 4, nil}, {3, 3, nil}, {3, 17, [][3]int{{3, 8, 0}}}, {3, 15, [][3]int{{3, 8, 0}}}, {3, 13, [][3]int{{3, 8, 0}}},
		{4, 8, nil}, {5, 8, nil}, {0, 0, nil}, {18, 18, nil},
	} {
		if got := impl.Delims(raw, x.from, x.to, "b"); !slices.Equal(got, x.want) {
			t.Errorf("Delims(%q, %d, %d) = %v, want %v", raw, x.from, x.to, got, x.want)
		}
	}
	for _, x := range [][2]int{{-1, 5}, {5, 4}, {0, -1}, {-1, -1}, {-2, -1}, {0, 19}, {19, 19}, {18, 19}, {18, 17}, {1, 0}, {math.MinInt, 5}, {0, math.MaxInt}, {math.MinInt, math.MaxInt}, {math.MaxInt, math.MinInt}, {math.MaxInt, math.MaxInt}} {
		if got := impl.Delims(raw, x[0], x[1], "b"); len(got) != 0 {
			t.Errorf("Delims(%q, %d, %d) = %v", raw, x[0], x[1], got)
		}
	}
}

func TestDelimsOfMarks(t *testing.T) {
	for _, size := range []int{1, 2, 69, 70} {
		checkDelims(t, "--"+xs(size)+"\r\n--"+xs(size)+"--", xs(size), [3]int{0, size + 4, 0}, [3]int{size + 4, 2*size + 8, 1})
	}
	for _, size := range []int{0, 71, 72, 700} {
		checkDelims(t, "--"+xs(size)+"\r\n--"+xs(size)+"--", xs(size))
	}
	checkDelims(t, "--\r\n----\r\n", "")
	for _, mark := range []string{"-", "--", "b-", "b--", "-b", " ", "b ", " b", "\t", "b  ", "\r", "\n", "\r\n", "b\r\nc", "\r\n-", "\x00", "\xff", "caf\u00e9", ".*", `\`, `"b"`, "b\r\n--b", "\r\n--\r\n", "x\r\n--x\r\n--x"} {
		for _, form := range []string{"--M", "--M\r\n", "--M--", "--M--\r\n", "--M \t\r\nx", "--M-- \r\nx\r\n--M", "x\r\n--M\r\ny\r\n--M--", "--Mx\r\n", "--M-\r\n", "--M--M--M", "--M\r\n--M\r\n--M\r\n--M--\r\n", "M\r\n-- M\r\n"} {
			raw := strings.ReplaceAll(form, "M", mark)
			checkDelims(t, raw, mark, delimsOf(raw, 0, len(raw), mark)...)
		}
	}
	// A mark with a line end: the second delimiter begins within the first one.
	checkDelims(t, "--x\r\n--x\r\n--x\r\n", "x\r\n--x", [3]int{0, 10, 0}, [3]int{5, 15, 0})
	for _, c := range []byte(allBytes()) {
		mark := string([]byte{c})
		raw := "--" + mark + "\r\n--" + mark + "x\r\n--x" + mark + "\r\n--" + mark + mark + "\r\n--" + mark + "--"
		checkDelims(t, raw, mark, delimsOf(raw, 0, len(raw), mark)...)
		checkDelims(t, "--b"+mark, "b", delimsOf("--b"+mark, 0, 4, "b")...)
		checkDelims(t, "--b"+mark+"\r\n", "b", delimsOf("--b"+mark+"\r\n", 0, 6, "b")...)
		checkDelims(t, "x"+mark+"--b", "b")
	}
}

func TestDelimsByRule(t *testing.T) {
	check := func(raw string, from int, to int, mark string) {
		if got, want := impl.Delims(raw, from, to, mark), delimsOf(raw, from, to, mark); !slices.Equal(got, want) {
			t.Fatalf("Delims(%q, %d, %d, %q) = %v, want %v", raw, from, to, mark, got, want)
		}
	}
	pieces := []string{"--b", "--", "\r\n", "\r", "\n", " ", "b", "x"}
	for _, code := range textsOf("\x00\x01\x02\x03\x04\x05\x06\x07", 5) {
		raw := ""
		for i := range len(code) {
			raw += pieces[code[i]]
		}
		check(raw, 0, len(raw), "b")
	}
	for _, raw := range textsOf("-b\r\n", 5) {
		for from := -1; from <= len(raw)+1; from++ {
			for to := -1; to <= len(raw)+1; to++ {
				check("--b\r\n"+raw, from+5, to+5, "b")
				check(raw, from, to, "-")
			}
		}
	}
}

// readPart is ReadPart as the document words it.
func readPart(raw string, from int, to int, deep int) impl.Part {
	if from < 0 || from > to || to > len(raw) {
		return impl.Part{}
	}
	p := impl.Part{Kind: impl.Kind{Type: "TEXT", Sub: "PLAIN"}, Head: from, Body: from + headEnd(raw[from:to]), End: to}
	if text, ok := bodyOf(fieldsOf(raw[from:p.Body]), "CONTENT-TYPE"); ok {
		if k, ok := readKind(text); ok {
			p.Kind = k
		}
	}
	several := p.Kind.Type == "MULTIPART"
	letter := p.Kind.Type == "MESSAGE" && p.Kind.Sub == "RFC822"
	if deep > 0 && several {
		p.Kids = kidsOf(raw, p, deep)
	}
	if deep > 0 && letter {
		p.Kids = []impl.Part{readPart(raw, p.Body, p.End, deep-1)}
	}
	if (several || letter) && len(p.Kids) == 0 {
		p.Kind = impl.Kind{Type: "APPLICATION", Sub: "OCTET-STREAM"}
	}
	return p
}

// kidsOf reads the parts of a multipart: its body is cut at the delimiters.
func kidsOf(raw string, p impl.Part, deep int) []impl.Part {
	kids := []impl.Part{}
	mark, _ := paramOf(p.Kind, "boundary")
	delims := delimsOf(raw, p.Body, p.End, mark)
	for i, d := range delims {
		switch {
		case d[2] == 1:
		case i == len(delims)-1:
			kids = append(kids, readPart(raw, d[1], p.End, deep-1))
		case delims[i+1][0]-2 < d[1]:
			kids = append(kids, readPart(raw, d[1], d[1], deep-1))
		default:
			kids = append(kids, readPart(raw, d[1], delims[i+1][0]-2, deep-1))
		}
	}
	return kids
}

func sameParts(a impl.Part, b impl.Part) bool {
	return sameKinds(a.Kind, b.Kind) && a.Head == b.Head && a.Body == b.Body && a.End == b.End && slices.EqualFunc(a.Kids, b.Kids, sameParts)
}

// isWithin reports whether p and the parts in it are ranges from from to to, the kids one after the other in the body, and no more than deep parts lie in each other below p.
func isWithin(p impl.Part, from int, to int, deep int) bool {
	if p.Head < from || p.Head > p.Body || p.Body > p.End || p.End > to || len(p.Kids) > 0 && deep <= 0 {
		return false
	}
	at := p.Body
	for _, kid := range p.Kids {
		if !isWithin(kid, at, p.End, deep-1) {
			return false
		}
		at = kid.End
	}
	return true
}

// moved returns p as it is in a message with more bytes in front.
func moved(p impl.Part, by int) impl.Part {
	p.Head += by
	p.Body += by
	p.End += by
	p.Kids = slices.Clone(p.Kids)
	for i := range p.Kids {
		p.Kids[i] = moved(p.Kids[i], by)
	}
	return p
}

// outline returns a line for every part: a dot for each part around it, its type, and the body of one without kids.
func outline(raw string, p impl.Part) []string {
	line := p.Kind.Type + "/" + p.Kind.Sub
	if len(p.Kids) == 0 {
		line += " " + strconv.Quote(raw[p.Body:p.End])
	}
	list := []string{line}
	for _, kid := range p.Kids {
		for _, line := range outline(raw, kid) {
			list = append(list, "."+line)
		}
	}
	return list
}

// checkParts compares the parts of a text with an outline. The same text is then read as a range of longer ones.
func checkParts(t *testing.T, raw string, deep int, lines ...string) {
	t.Helper()
	got := impl.ReadPart(raw, 0, len(raw), deep)
	if !isWithin(got, 0, len(raw), deep) || got.Head != 0 || got.End != len(raw) {
		t.Fatalf("ReadPart(%.200q, %d) = %v: not within", raw, deep, got)
	}
	if !slices.Equal(outline(raw, got), lines) {
		t.Errorf("ReadPart(%.200q, %d) has the outline %.200q, want %.200q", raw, deep, outline(raw, got), lines)
	}
	if want := readPart(raw, 0, len(raw), deep); !sameParts(got, want) {
		t.Errorf("ReadPart(%.200q, %d) = %v, want %v", raw, deep, got, want)
	}
	for _, around := range [][2]string{{"x", ""}, {"", "\r\n"}, {"\r\n", "\r\n\r\n"}, {"Content-Type: a/b\r\n", "--b--\r\n"}, {"\r", "\n"}, {"--b\r\n", " x"}, {"a:", "\r\n--b"}} {
		longer := impl.ReadPart(around[0]+raw+around[1], len(around[0]), len(around[0])+len(raw), deep)
		if !sameParts(longer, moved(got, len(around[0]))) {
			t.Errorf("ReadPart(%.200q, %d) is another one between %q: %v, want %v", raw, deep, around, longer, got)
		}
	}
}

const (
	mixed = "Content-Type: multipart/mixed; boundary=b\r\n\r\n"
	other = "Content-Type: multipart/other; boundary=\"c d\"\r\n\r\n"
	mail  = "Content-Type: message/rfc822\r\n\r\n"
	html  = "Content-Type: text/html\r\n\r\n"
)

func TestReadPartOfHeads(t *testing.T) {
	checkParts(t, "", 4, `TEXT/PLAIN ""`)
	checkParts(t, "\r\n", 4, `TEXT/PLAIN ""`)
	checkParts(t, "\r\nhello", 4, `TEXT/PLAIN "hello"`)
	checkParts(t, "Subject: x\r\n\r\nhello\r\n", 4, `TEXT/PLAIN "hello\r\n"`)
	checkParts(t, "Subject: x\r\nhello\r\n", 4, `TEXT/PLAIN ""`)
	checkParts(t, "no field", 4, `TEXT/PLAIN ""`)
	checkParts(t, html+"hello", 4, `TEXT/HTML "hello"`)
	checkParts(t, "content-TYPE:image/PNG\r\n\r\nhello", 4, `IMAGE/PNG "hello"`)
	checkParts(t, "Content-Type: image/png", 4, `IMAGE/PNG ""`)
	checkParts(t, "Content-Type: image/png\r\n", 4, `IMAGE/PNG ""`)
	checkParts(t, "Content-Type: image/png;\r\n name=x\r\n\r\nhello", 4, `IMAGE/PNG "hello"`)
	checkParts(t, "Content-Type:\r\n image/png\r\n\r\n", 4, `IMAGE/PNG ""`)
	checkParts(t, "Content-Type: image/png\r\nContent-Type: text/html\r\n\r\n", 4, `IMAGE/PNG ""`)
	checkParts(t, "Content-Type: bad\r\nContent-Type: text/html\r\n\r\n", 4, `TEXT/PLAIN ""`)
	checkParts(t, "Content-Type:\r\n\r\nhello", 4, `TEXT/PLAIN "hello"`)
	checkParts(t, "Content-Type: text/html; x\r\n\r\nhello", 4, `TEXT/PLAIN "hello"`)
	checkParts(t, "Content-Type: multipart\r\n\r\n--b\r\n", 4, `TEXT/PLAIN "--b\r\n"`)
	checkParts(t, "Content-Type: multipart/mixed; boundary=\"a;b\"\r\n\r\n--a\r\n", 4, `TEXT/PLAIN "--a\r\n"`)
	checkParts(t, "Content-Type : text/html\r\n\r\n", 4, `TEXT/PLAIN ""`)
	checkParts(t, "X-Content-Type: text/html\r\n\r\n", 4, `TEXT/PLAIN ""`)
	checkParts(t, "\r\nContent-Type: text/html\r\n\r\n", 4, `TEXT/PLAIN "Content-Type: text/html\r\n\r\n"`)
	checkParts(t, "Content-Type: text/html\n\nhello", 4, `TEXT/PLAIN ""`)
	checkParts(t, "Content-Type: message/partial\r\n\r\n"+html, 4, `MESSAGE/PARTIAL "Content-Type: text/html\r\n\r\n"`)
	checkParts(t, "Content-Type: text/rfc822\r\n\r\n"+html, 4, `TEXT/RFC822 "Content-Type: text/html\r\n\r\n"`)
	checkParts(t, "Content-Type: text/mixed; boundary=b\r\n\r\n--b\r\n", 4, `TEXT/MIXED "--b\r\n"`)
	p := impl.Tree("Content-Type: Image/Png; Name=\"a b\"; x=Y\r\n\r\nhello")
	if want := (impl.Kind{Type: "IMAGE", Sub: "PNG", Params: []impl.Param{{Name: "NAME", Value: "a b"}, {Name: "X", Value: "Y"}}}); !sameKinds(p.Kind, want) || p.Head != 0 || p.Body != 44 || p.End != 49 {
		t.Errorf("the kind %q with %d %d %d", p.Kind, p.Head, p.Body, p.End)
	}
}

func TestReadPartOfMultiparts(t *testing.T) {
	checkParts(t, mixed+"--b\r\n\r\none\r\n--b--\r\n", 4, `MULTIPART/MIXED`, `.TEXT/PLAIN "one"`)
	checkParts(t, mixed+"pre\r\n--b\r\n\r\none\r\n--b \t\r\n"+html+"two\r\n--b--\r\npost\r\n--b\r\n", 4, `MULTIPART/MIXED`, `.TEXT/PLAIN "one"`, `.TEXT/HTML "two"`)
	checkParts(t, mixed+"\r\n--b\r\n\r\none\r\n\r\n--b\r\n\r\n\r\n\r\ntwo\r\n\r\n\r\n--b--", 4, `MULTIPART/MIXED`, `.TEXT/PLAIN "one\r\n"`, `.TEXT/PLAIN "\r\n\r\ntwo\r\n\r\n"`)
	checkParts(t, mixed+"--b\r\nSubject: x\r\n--b\r\nno field\r\n--b\r\n\r\n--b--", 4, `MULTIPART/MIXED`, `.TEXT/PLAIN ""`, `.TEXT/PLAIN ""`, `.TEXT/PLAIN ""`)
	checkParts(t, mixed+"--b\r\n--b\r\n--b\r\n--b--\r\n", 4, `MULTIPART/MIXED`, `.TEXT/PLAIN ""`, `.TEXT/PLAIN ""`, `.TEXT/PLAIN ""`)
	checkParts(t, mixed+"--b\r\n"+html+"one\r\n--bx\r\n --b\r\n--b--x\r\n--b--\r\n", 4, `MULTIPART/MIXED`, `.TEXT/HTML "one\r\n--bx\r\n --b\r\n--b--x"`)
	checkParts(t, mixed+"--b\r\nContent-Type: text/html\r\n--b--\r\n\r\nlost", 4, `MULTIPART/MIXED`, `.TEXT/HTML ""`)
	checkParts(t, "Content-Type: MultiPart/X; a=c; Boundary=\"b b\"; boundary=c\r\n\r\n--c\r\n\r\n1\r\n--b b\r\n\r\n2\r\n--b b--\r\n", 4, `MULTIPART/X`, `.TEXT/PLAIN "2"`)
	checkParts(t, "Content-Type: multipart/mixed; boundary=\"b \"\r\n\r\n--b\r\n\r\n1\r\n--b \r\n\r\n2", 4, `MULTIPART/MIXED`, `.TEXT/PLAIN "2"`)
	checkParts(t, "Content-Type: multipart/mixed; boundary="+xs(70)+"\r\n\r\n--"+xs(70)+"\r\n\r\n1\r\n--"+xs(70)+"--", 4, `MULTIPART/MIXED`, `.TEXT/PLAIN "1"`)
	p := impl.Tree(mixed + "--b\r\n\r\none\r\n--b--\r\n")
	if value, ok := impl.ParamOf(p.Kind, "boundary"); value != "b" || !ok || len(p.Kind.Params) != 1 {
		t.Errorf("a multipart of the kind %q", p.Kind)
	}
}

func TestReadPartWithoutClosingDelimiter(t *testing.T) {
	checkParts(t, mixed+"--b\r\n\r\none", 4, `MULTIPART/MIXED`, `.TEXT/PLAIN "one"`)
	checkParts(t, mixed+"--b\r\n\r\none\r\n", 4, `MULTIPART/MIXED`, `.TEXT/PLAIN "one\r\n"`)
	checkParts(t, mixed+"--b\r\n\r\none\r\n--b\r\n"+html+"two\r\n\r\n", 4, `MULTIPART/MIXED`, `.TEXT/PLAIN "one"`, `.TEXT/HTML "two\r\n\r\n"`)
	checkParts(t, mixed+"--b", 4, `MULTIPART/MIXED`, `.TEXT/PLAIN ""`)
	checkParts(t, mixed+"--b\r\n", 4, `MULTIPART/MIXED`, `.TEXT/PLAIN ""`)
	checkParts(t, mixed+"--b \t", 4, `MULTIPART/MIXED`, `.TEXT/PLAIN ""`)
	checkParts(t, mixed+"--b\r\n\r\none\r\n--b", 4, `MULTIPART/MIXED`, `.TEXT/PLAIN "one"`, `.TEXT/PLAIN ""`)
	checkParts(t, mixed+"--b\r\n\r\none\r\n--b\r\n--b", 4, `MULTIPART/MIXED`, `.TEXT/PLAIN "one"`, `.TEXT/PLAIN ""`, `.TEXT/PLAIN ""`)
	checkParts(t, mixed+"--b\r\n\r\none\r\n--b--", 4, `MULTIPART/MIXED`, `.TEXT/PLAIN "one"`)
	checkParts(t, mixed+"--b\r\n--b--", 4, `MULTIPART/MIXED`, `.TEXT/PLAIN ""`)
	checkParts(t, mixed+"--b\r\n\r\none\r\n--b--\r\nlost\r\n--b\r\n\r\nlost\r\n--b--\r\n", 4, `MULTIPART/MIXED`, `.TEXT/PLAIN "one"`)
	checkParts(t, mixed+"--b\r\n\r\none\r\n--b--\r", 4, `MULTIPART/MIXED`, `.TEXT/PLAIN "one\r\n--b--\r"`)
	checkParts(t, mixed+"--b\r\n\r\none\r\n--b\r", 4, `MULTIPART/MIXED`, `.TEXT/PLAIN "one\r\n--b\r"`)
}

func TestReadPartOfNoUse(t *testing.T) {
	for _, head := range []string{
		"multipart/mixed", "multipart/mixed;", "multipart/mixed; bound=b", "multipart/mixed; boundary=\"\"", "multipart/mixed; boundary=B", "multipart/mixed; boundary=c; boundary=b", "multipart/mixed; boundary=\" b\"; x=y", "multipart/x; boundary=" + xs(71), "multipart/mixed; boundary=\"\"; boundary=b", "message/x; boundary=b",
	} {
		for _, body := range []string{"", "--b\r\n\r\none\r\n--b--\r\n", "--\r\n--B--\r\n--" + xs(71) + "\r\n"} {
			raw := "Content-Type: " + head + "\r\n\r\n" + body
			kind := "APPLICATION/OCTET-STREAM "
			if strings.HasPrefix(head, "message") {
				kind = "MESSAGE/X "
			}
			for _, deep := range []int{1, 4, 5} {
				checkParts(t, raw, deep, kind+strconv.Quote(body))
			}
			if p := impl.Tree(raw); p.Kind.Type == "APPLICATION" && len(p.Kind.Params) != 0 {
				t.Errorf("Tree(%q) has the parameters %q", raw, p.Kind.Params)
			}
		}
	}
	for _, body := range []string{"", "\r\n", "nothing", "--b--", "--b--\r\n", "--b--\r\n--b\r\n\r\none\r\n--b--", "pre\r\n--b-- \r\n--b\r\n", " --b\r\n", "--bb\r\n", "b\r\n", "--b x", "--b\r", "--b\n"} {
		checkParts(t, mixed+body, 4, "APPLICATION/OCTET-STREAM "+strconv.Quote(body))
		checkParts(t, mixed+body, 0, "APPLICATION/OCTET-STREAM "+strconv.Quote(body))
		if p := impl.Tree(mixed + body); len(p.Kind.Params) != 0 {
			t.Errorf("Tree(%q) has the parameters %q", mixed+body, p.Kind.Params)
		}
	}
	// Without an empty line there is a header alone, and what looks like a delimiter is in it.
	checkParts(t, "Content-Type: multipart/mixed; boundary=b\r\n--b\r\n--b--\r\n", 4, `APPLICATION/OCTET-STREAM ""`)
	checkParts(t, "Content-Type: multipart/mixed; boundary=b\r\n", 4, `APPLICATION/OCTET-STREAM ""`)
	checkParts(t, "Content-Type: multipart/mixed; boundary=b", 4, `APPLICATION/OCTET-STREAM ""`)
}

func TestReadPartOfLetters(t *testing.T) {
	checkParts(t, mail, 4, `MESSAGE/RFC822`, `.TEXT/PLAIN ""`)
	checkParts(t, mail+"Subject: x\r\n\r\nhello", 4, `MESSAGE/RFC822`, `.TEXT/PLAIN "hello"`)
	checkParts(t, mail+"\r\nhello", 4, `MESSAGE/RFC822`, `.TEXT/PLAIN "hello"`)
	checkParts(t, mail+"hello", 4, `MESSAGE/RFC822`, `.TEXT/PLAIN ""`)
	checkParts(t, "Content-Type: Message/Rfc822; x=y\r\n", 4, `MESSAGE/RFC822`, `.TEXT/PLAIN ""`)
	checkParts(t, mail+mail+html+"hello", 4, `MESSAGE/RFC822`, `.MESSAGE/RFC822`, `..TEXT/HTML "hello"`)
	checkParts(t, mail+mixed+"--b\r\n\r\none\r\n--b\r\n"+html+"two\r\n--b--\r\npost", 4, `MESSAGE/RFC822`, `.MULTIPART/MIXED`, `..TEXT/PLAIN "one"`, `..TEXT/HTML "two"`)
	checkParts(t, mail+mixed+"nothing", 4, `MESSAGE/RFC822`, `.APPLICATION/OCTET-STREAM "nothing"`)
	checkParts(t, mixed+"--b\r\n"+mail+html+"one\r\n--b\r\n\r\ntwo", 4, `MULTIPART/MIXED`, `.MESSAGE/RFC822`, `..TEXT/HTML "one"`, `.TEXT/PLAIN "two"`)
	checkParts(t, mixed+"--b\r\n"+other+"--c d\r\n"+html+"one\r\n--c d\r\n"+mail+"\r\ntwo\r\n--c d--\r\n--b\r\n\r\nthree\r\n--b--", 4, `MULTIPART/MIXED`, `.MULTIPART/OTHER`, `..TEXT/HTML "one"`, `..MESSAGE/RFC822`, `...TEXT/PLAIN "two"`, `.TEXT/PLAIN "three"`)
	// The delimiters of the part around it come first, even where they have the same mark.
	checkParts(t, mixed+"--b\r\n"+other+"--c d\r\n\r\none\r\n--b\r\n\r\ntwo\r\n--c d--\r\n--b--", 4, `MULTIPART/MIXED`, `.MULTIPART/OTHER`, `..TEXT/PLAIN "one"`, `.TEXT/PLAIN "two\r\n--c d--"`)
	checkParts(t, mixed+"--b\r\n"+mixed+"--b\r\n\r\none\r\n--b--\r\n--b--", 4, `MULTIPART/MIXED`, `.APPLICATION/OCTET-STREAM ""`, `.TEXT/PLAIN "one"`)
}

// TestReadPartLimitsDepth reads texts in which parts lie in each other, with all depths.
func TestReadPartLimitsDepth(t *testing.T) {
	letters := mail + mail + mail + mail + mail + mail + "\r\nhello"
	nested := ""
	for _, mark := range []string{"1", "2", "3", "4", "5", "6"} {
		nested += "Content-Type: multipart/mixed; boundary=" + mark + "\r\n\r\n--" + mark + "\r\n"
	}
	nested += "\r\nhello"
	for _, x := range []struct{ raw, kind string }{{letters, "MESSAGE/RFC822"}, {nested, "MULTIPART/MIXED"}} {
		for _, deep := range []int{math.MinInt, -7, -1, 0, 1, 2, 3, 4, 5, 6, 7, 100, math.MaxInt} {
			lines := []string{}
			rest := x.raw
			for range min(max(deep, 0), 6) {
				lines = append(lines, strings.Repeat(".", len(lines))+x.kind)
				_, rest, _ = strings.Cut(rest, "\r\n\r\n")
				if x.raw == nested {
					rest = rest[5:]
				}
			}
			last := `APPLICATION/OCTET-STREAM `
			if deep >= 6 {
				last = `TEXT/PLAIN `
			}
			_, body, _ := strings.Cut(rest, "\r\n\r\n")
			if deep >= 6 {
				body = "hello"
			}
			checkParts(t, x.raw, deep, append(lines, strings.Repeat(".", len(lines))+last+strconv.Quote(body))...)
		}
	}
	checkParts(t, mail+mixed+"--b\r\n\r\none", 2, `MESSAGE/RFC822`, `.MULTIPART/MIXED`, `..TEXT/PLAIN "one"`)
	checkParts(t, mail+mixed+"--b\r\n\r\none", 1, `MESSAGE/RFC822`, `.APPLICATION/OCTET-STREAM "--b\r\n\r\none"`)
	checkParts(t, mail+mixed+"--b\r\n\r\none", 0, `APPLICATION/OCTET-STREAM "Content-Type: multipart/mixed; boundary=b\r\n\r\n--b\r\n\r\none"`)
	checkParts(t, html+"one", 0, `TEXT/HTML "one"`)
	checkParts(t, html+"one", -1, `TEXT/HTML "one"`)
	checkParts(t, "Content-Type: message/partial; x=y\r\n\r\none", 0, `MESSAGE/PARTIAL "one"`)
	if p := impl.ReadPart("Content-Type: message/partial; x=y\r\n\r\none", 0, 41, 0); len(p.Kind.Params) != 1 {
		t.Errorf("the parameters %q", p.Kind.Params)
	}
	for _, raw := range []string{mail, "Content-Type: message/rfc822; x=y\r\n\r\n" + mail, mixed + "--b\r\n"} {
		for _, deep := range []int{0, -1, math.MinInt} {
			if p := impl.ReadPart(raw, 0, len(raw), deep); p.Kind.Type != "APPLICATION" || len(p.Kind.Params) != 0 || len(p.Kids) != 0 {
				t.Errorf("ReadPart(%q, %d) = %v", raw, deep, p)
			}
		}
	}
}

func TestReadPartOfRanges(t *testing.T) {
	raw := mixed + "--b\r\n\r\none\r\n--b--\r\n"
	for _, x := range [][2]int{{-1, 5}, {5, 4}, {0, -1}, {-1, -1}, {-1, 0}, {0, len(raw) + 1}, {len(raw) + 1, len(raw) + 1}, {len(raw), len(raw) - 1}, {len(raw) + 1, len(raw)}, {math.MinInt, 0}, {0, math.MaxInt}, {math.MinInt, math.MaxInt}, {math.MaxInt, math.MinInt}} {
		for _, deep := range []int{-1, 0, 1, 4, math.MaxInt} {
			if p := impl.ReadPart(raw, x[0], x[1], deep); !sameParts(p, impl.Part{}) {
				t.Errorf("ReadPart(%q, %d, %d, %d) = %v", raw, x[0], x[1], deep, p)
			}
		}
	}
	for from := range len(raw) + 1 {
		for to := from; to <= len(raw); to++ {
			p := impl.ReadPart(raw, from, to, 1)
			if want := readPart(raw, from, to, 1); !sameParts(p, want) || p.Head != from || p.End != to {
				t.Fatalf("ReadPart(%q, %d, %d) = %v, want %v", raw, from, to, p, want)
			}
		}
	}
	if p := impl.ReadPart("", 0, 0, 0); !sameParts(p, impl.Part{Kind: impl.Kind{Type: "TEXT", Sub: "PLAIN"}}) {
		t.Errorf("the part of nothing is %v", p)
	}
}

// TestPartsAreRanges reads whatever texts there are.
func TestPartsAreRanges(t *testing.T) {
	pieces := []string{"--b", "--b\r\n", "--", "\r\n", "--c d\r\n", mixed, other, mail, "x"}
	for _, code := range textsOf("\x00\x01\x02\x03\x04\x05\x06\x07\x08", 5) {
		raw := ""
		for i := range len(code) {
			raw += pieces[code[i]]
		}
		raw = mixed + raw
		for _, deep := range []int{1, 4} {
			p := impl.ReadPart(raw, 0, len(raw), deep)
			if want := readPart(raw, 0, len(raw), deep); !sameParts(p, want) || !isWithin(p, 0, len(raw), deep) {
				t.Fatalf("ReadPart(%q, %d) = %v, want %v", raw, deep, p, want)
			}
		}
	}
}

// TestPartsOfOverlappingDelimiters has marks with line ends, which a backslash brings into a boundary parameter.
func TestPartsOfOverlappingDelimiters(t *testing.T) {
	for _, mark := range []string{"x\r\n--x", "\r\n-", "x\r\n--x\r\n--x", "\r\n--", "-\r\n---"} {
		head := "Content-Type: multipart/mixed; boundary=\"" + strings.ReplaceAll(mark, "\n", "\\\n") + "\"\r\n\r\n"
		if value, _ := impl.ParamOf(impl.Tree(head+"--"+mark).Kind, "boundary"); value != mark {
			t.Fatalf("the mark is %q, want %q", value, mark)
		}
		for _, body := range append(textsOf("x-\r\n", 3), "--x\r\n--x", "--x\r\n--x\r\n--x\r\n--x--", "--x\r\n--x\r\n--x\r\n\r\none\r\n--x\r\n--x\r\ntwo", "--\r\n--\r\n--\r\n--", strings.Repeat("--x\r\n", 9), strings.Repeat("--\r\n", 9)) {
			raw := head + "--" + mark + "\r\n" + body
			p := impl.Tree(raw)
			if !isWithin(p, 0, len(raw), impl.MaxDeep) || p.End != len(raw) || !sameParts(p, readPart(raw, 0, len(raw), impl.MaxDeep)) {
				t.Fatalf("Tree(%q) = %v", raw, p)
			}
		}
	}
}

func TestTree(t *testing.T) {
	for _, raw := range []string{
		"", "hello", html + "hello", mixed + "--b\r\n\r\none\r\n--b--", mixed + "nothing", mail + html, strings.Repeat(mail, 4) + "\r\nhello", strings.Repeat(mail, 5) + "\r\nhello", strings.Repeat(mail, 9), mail + mixed + "--b\r\n" + mail + other + "--c d\r\n" + mail, allBytes(),
	} {
		if got, want := impl.Tree(raw), readPart(raw, 0, len(raw), 4); !sameParts(got, want) {
			t.Errorf("Tree(%q) = %v, want %v", raw, got, want)
		}
	}
	if impl.MaxDeep != 4 {
		t.Errorf("MaxDeep = %d", impl.MaxDeep)
	}
}

// partAt is PartAt as the document words it.
func partAt(p impl.Part, path []int) (impl.Part, bool) {
	if len(path) == 0 {
		return p, true
	}
	from := p
	letter := p.Kind.Type == "MESSAGE" && p.Kind.Sub == "RFC822" && len(p.Kids) > 0
	if letter && p.Kids[0].Kind.Type == "MULTIPART" {
		from = p.Kids[0]
	}
	if from.Kind.Type == "MULTIPART" {
		for i, kid := range from.Kids {
			if path[0] == i+1 {
				return partAt(kid, path[1:])
			}
		}
		return impl.Part{}, false
	}
	if path[0] != 1 {
		return impl.Part{}, false
	}
	if letter {
		return partAt(p.Kids[0], path[1:])
	}
	return partAt(p, path[1:])
}

// checkAt compares PartAt with the part that the Kids with these indexes lead to.
func checkAt(t *testing.T, p impl.Part, path []int, kids ...int) {
	t.Helper()
	want := p
	for _, i := range kids {
		want = want.Kids[i]
	}
	if got, ok := impl.PartAt(p, path); !ok || !sameParts(got, want) {
		t.Errorf("PartAt(%v, %v) = %v, %v, want %v", p, path, got, ok, want)
	}
}

func checkNotAt(t *testing.T, p impl.Part, path ...int) {
	t.Helper()
	if got, ok := impl.PartAt(p, path); ok || !sameParts(got, impl.Part{}) {
		t.Errorf("PartAt(%v, %v) = %v, %v, want none", p, path, got, ok)
	}
}

func TestPartAtLeaf(t *testing.T) {
	for _, p := range []impl.Part{impl.Tree("hello"), impl.Tree(html + "hello"), impl.Tree(mixed), impl.Tree("Content-Type: message/partial; x=y\r\n\r\nhello"), {}} {
		checkAt(t, p, nil)
		checkAt(t, p, []int{})
		checkAt(t, p, []int{1})
		checkAt(t, p, []int{1, 1})
		checkAt(t, p, []int{1, 1, 1, 1, 1, 1, 1})
		for _, n := range []int{0, 2, -1, 3, 256, math.MinInt, math.MaxInt} {
			checkNotAt(t, p, n)
			checkNotAt(t, p, 1, n)
			checkNotAt(t, p, n, 1)
		}
	}
}

func TestPartAtMultipart(t *testing.T) {
	p := impl.Tree(mixed + "--b\r\n\r\none\r\n--b\r\n" + other + "--c d\r\n" + html + "two\r\n--c d\r\n\r\nthree\r\n--c d--\r\n--b\r\n" + mixed + "\r\n--b--\r\n")
	checkAt(t, p, nil)
	checkAt(t, p, []int{1}, 0)
	checkAt(t, p, []int{1, 1}, 0)
	checkAt(t, p, []int{1, 1, 1}, 0)
	checkAt(t, p, []int{2}, 1)
	checkAt(t, p, []int{2, 1}, 1, 0)
	checkAt(t, p, []int{2, 2}, 1, 1)
	checkAt(t, p, []int{2, 2, 1}, 1, 1)
	checkAt(t, p, []int{3}, 2)
	checkAt(t, p, []int{3, 1}, 2)
	for _, path := range [][]int{{0}, {4}, {-1}, {math.MinInt}, {math.MaxInt}, {0, 1}, {4, 1}, {1, 0}, {1, 2}, {1, 1, 2}, {2, 0}, {2, 3}, {2, -1}, {2, 1, 2}, {2, 1, 0}, {3, 2}, {2, 2, 1, 1, 0}} {
		checkNotAt(t, p, path...)
	}
}

func TestPartAtLetter(t *testing.T) {
	p := impl.Tree(mail + "\r\nhello")
	checkAt(t, p, nil)
	checkAt(t, p, []int{1}, 0)
	checkAt(t, p, []int{1, 1}, 0)
	checkNotAt(t, p, 0)
	checkNotAt(t, p, 2)
	checkNotAt(t, p, -1)
	checkNotAt(t, p, 1, 2)
	p = impl.Tree(mail + mixed + "--b\r\n\r\none\r\n--b\r\n" + html + "two\r\n--b--")
	checkAt(t, p, nil)
	checkAt(t, p, []int{1}, 0, 0)
	checkAt(t, p, []int{2}, 0, 1)
	checkAt(t, p, []int{2, 1}, 0, 1)
	checkNotAt(t, p, 0)
	checkNotAt(t, p, 3)
	checkNotAt(t, p, -1)
	checkNotAt(t, p, 1, 2)
	p = impl.Tree(mail + mixed + "nothing")
	checkAt(t, p, []int{1}, 0)
	checkNotAt(t, p, 2)
	p = impl.Tree(mail + mail + mixed + "--b\r\n\r\none\r\n--b\r\n\r\ntwo")
	checkAt(t, p, []int{1}, 0)
	checkAt(t, p, []int{1, 1}, 0, 0, 0)
	checkAt(t, p, []int{1, 2}, 0, 0, 1)
	checkAt(t, p, []int{1, 2, 1}, 0, 0, 1)
	checkNotAt(t, p, 2)
	checkNotAt(t, p, 1, 3)
	p = impl.Tree(mixed + "--b\r\n" + mail + other + "--c d\r\n\r\none\r\n--c d\r\n\r\ntwo\r\n--c d--\r\n--b\r\n" + mail + html)
	checkAt(t, p, []int{1}, 0)
	checkAt(t, p, []int{1, 1}, 0, 0, 0)
	checkAt(t, p, []int{1, 2}, 0, 0, 1)
	checkAt(t, p, []int{2}, 1)
	checkAt(t, p, []int{2, 1}, 1, 0)
	checkNotAt(t, p, 1, 3)
	checkNotAt(t, p, 2, 2)
}

// TestPartAtOddParts has parts that ReadPart never returns.
func TestPartAtOddParts(t *testing.T) {
	leaf := impl.Part{Kind: impl.Kind{Type: "TEXT", Sub: "PLAIN"}, Head: 7}
	two := []impl.Part{leaf, {Kind: impl.Kind{Type: "IMAGE", Sub: "PNG"}, Head: 8}}
	empty := impl.Part{Kind: impl.Kind{Type: "MULTIPART"}}
	checkAt(t, empty, nil)
	checkNotAt(t, empty, 1)
	checkNotAt(t, empty, 0)
	checkAt(t, impl.Part{Kind: impl.Kind{Type: "MULTIPART", Sub: "RFC822"}, Kids: two}, []int{2}, 1)
	checkAt(t, impl.Part{Kind: impl.Kind{Type: "MESSAGE", Sub: "RFC822"}}, []int{1})
	checkNotAt(t, impl.Part{Kind: impl.Kind{Type: "MESSAGE", Sub: "RFC822"}}, 2)
	checkNotAt(t, impl.Part{Kind: impl.Kind{Type: "MESSAGE", Sub: "RFC822"}, Kids: []impl.Part{empty}}, 1)
	for _, k := range []impl.Kind{{Type: "MESSAGE", Sub: "PARTIAL"}, {Type: "MESSAGE"}, {Type: "message", Sub: "rfc822"}, {Type: "multipart"}, {Type: "TEXT", Sub: "RFC822"}, {Sub: "RFC822"}, {}} {
		p := impl.Part{Kind: k, Kids: two}
		checkAt(t, p, []int{1})
		checkAt(t, p, []int{1, 1})
		checkNotAt(t, p, 2)
		checkAt(t, impl.Part{Kind: impl.Kind{Type: "MESSAGE", Sub: "RFC822"}, Kids: []impl.Part{p}}, []int{1, 1}, 0)
		checkNotAt(t, impl.Part{Kind: impl.Kind{Type: "MESSAGE", Sub: "RFC822"}, Kids: []impl.Part{p}}, 2)
	}
}

func TestPartAtByRule(t *testing.T) {
	for _, raw := range []string{
		"hello", mail + mail + mail + "\r\nhello", mail + mixed + "--b\r\n" + mail + mixed + "--b\r\n\r\none", mixed + "--b\r\n" + mail + other + "--c d\r\n" + mail + "\r\none\r\n--c d\r\n\r\ntwo\r\n--b\r\n" + other + "--c d\r\n--c d\r\n--b\r\n" + mixed + "--b--", mail + mixed,
	} {
		p := impl.Tree(raw)
		for _, code := range textsOf("\x00\x01\x02\x03\x04", 5) {
			path := []int{}
			for i := range len(code) {
				path = append(path, int(code[i]))
			}
			want, there := partAt(p, path)
			if got, ok := impl.PartAt(p, path); ok != there || !sameParts(got, want) {
				t.Fatalf("PartAt(%v, %v) = %v, %v, want %v, %v", p, path, got, ok, want, there)
			}
		}
	}
}

func TestCount(t *testing.T) {
	for _, raw := range []string{"", "hello", mail, mail + mail + mail, strings.Repeat(mail, 9), mixed, mixed + "--b", mixed + strings.Repeat("--b\r\n", 500), mixed + "--b\r\n" + other + "--c d\r\n--c d\r\n\r\n--b\r\n" + mail + "\r\none\r\n--b--"} {
		for _, deep := range []int{0, 1, 2, 4, 100} {
			p := impl.ReadPart(raw, 0, len(raw), deep)
			if got, want := impl.Count(p), len(outline(raw, p)); got != want {
				t.Errorf("Count of the parts of %.80q is %d, want %d", raw, got, want)
			}
		}
	}
	for _, x := range []struct {
		p     impl.Part
		count int
	}{
		{impl.Part{}, 1}, {impl.Part{Kids: []impl.Part{{}}}, 2}, {impl.Part{Kids: []impl.Part{{}, {}}}, 3}, {impl.Part{Kind: impl.Kind{Type: "TEXT"}, Kids: []impl.Part{{Kids: []impl.Part{{}, {}, {}}}, {}, {Kids: []impl.Part{{}}}}}, 8}, {impl.Part{Kids: make([]impl.Part, 1000)}, 1001},
	} {
		if got := impl.Count(x.p); got != x.count {
			t.Errorf("Count(%v) = %d, want %d", x.p, got, x.count)
		}
	}
}

// spoil overwrites everything in a part, also what lies behind its slices.
func spoil(p *impl.Part) {
	for i := range p.Kids {
		spoil(&p.Kids[i])
	}
	for i := range cap(p.Kids) {
		p.Kids[:cap(p.Kids)][i] = impl.Part{Head: -1, Body: -2, End: -3}
	}
	for i := range cap(p.Kind.Params) {
		p.Kind.Params[:cap(p.Kind.Params)][i] = impl.Param{Name: "spoiled"}
	}
	*p = impl.Part{}
}

// copied returns a part in memory of its own, with more behind its slices than they have.
func copied(p impl.Part) impl.Part {
	params := append(slices.Clone(p.Kind.Params), impl.Param{Name: "SPARE", Value: "spare"}, impl.Param{Name: "BOUNDARY", Value: "b"})
	kids := []impl.Part{}
	for _, kid := range p.Kids {
		kids = append(kids, copied(kid))
	}
	kids = append(kids, impl.Part{Head: 1, Kids: []impl.Part{{}}}, impl.Part{Head: 2})
	p.Kind.Params = params[:len(p.Kind.Params)]
	p.Kids = kids[:len(p.Kids)]
	return p
}

// isCopied reports whether p is as copied has made it of q, also behind its slices.
func isCopied(p impl.Part, q impl.Part) bool {
	params := p.Kind.Params[:len(p.Kind.Params)+2]
	kids := p.Kids[:len(p.Kids)+2]
	for i := range p.Kids {
		if !isCopied(p.Kids[i], q.Kids[i]) {
			return false
		}
	}
	return sameParts(p, q) && params[len(params)-2].Name == "SPARE" && params[len(params)-1].Name == "BOUNDARY" && kids[len(kids)-2].Head == 1 && len(kids[len(kids)-2].Kids) == 1 && kids[len(kids)-1].Head == 2
}

// TestMimeLeavesArguments calls every function of the chapter and checks that arguments stay as they were, and that what lies behind them is not read.
func TestMimeLeavesArguments(t *testing.T) {
	for _, raw := range []string{
		"hello", "Content-Type: a/b; x=y; z=\"1\"\r\n\r\nhello", mixed + "--b\r\n" + other + "--c d\r\n" + html + "one\r\n--c d\r\n" + mail + "\r\ntwo\r\n--c d--\r\n--b\r\nContent-Type: a/b; x=y; z=1\r\n\r\nthree\r\n--b--", mail + mixed + "--b\r\n\r\none", strings.Repeat(mail, 9),
	} {
		kept := bytes.Clone([]byte(raw))
		p := impl.Tree(raw)
		own := readPart(raw, 0, len(raw), 4)
		full := copied(own)
		for _, path := range [][]int{{}, {1}, {2}, {3}, {1, 1}, {1, 2}, {1, 2, 1}, {2, 1}, {0}} {
			spare := append(slices.Clone(path), 1, 2, 3)
			got, ok := impl.PartAt(full, spare[:len(path)])
			want, there := partAt(own, path)
			if ok != there || !sameParts(got, want) {
				t.Errorf("PartAt(%v, %v) = %v, %v, want %v, %v", own, path, got, ok, want, there)
			}
			spoil(&got)
			if !slices.Equal(spare, append(slices.Clone(path), 1, 2, 3)) || !isCopied(full, own) {
				t.Fatal("an argument was modified, or a result shares memory with it")
			}
		}
		if _, ok := impl.ParamOf(full.Kind, "SPARE"); ok {
			t.Error("more than the parameters was read")
		}
		if impl.Count(full) != len(outline(raw, own)) || !isCopied(full, own) {
			t.Error("Count reads or writes more than the parts")
		}
		again := impl.Tree(raw)
		spoil(&again)
		list := impl.Delims(raw, 0, len(raw), "b")
		for i := range list {
			list[i] = [3]int{-1, -1, -1}
		}
		if !sameParts(p, own) || !slices.Equal(impl.Delims(raw, 0, len(raw), "b"), delimsOf(raw, 0, len(raw), "b")) || raw != string(kept) {
			t.Fatal("two results share memory, or an argument was modified")
		}
	}
}

// TestPartsShareNoMemory spoils every part of a result alone: the others stay.
func TestPartsShareNoMemory(t *testing.T) {
	raw := mixed + strings.Repeat("--b\r\nContent-Type: a/b; x=y; z=1; q=\r\n\r\none\r\n--b\r\nContent-Type: a/b; x=y; z=1\r\n\r\none\r\n--b\r\n"+mail+html+"two\r\n", 5)
	shared := []impl.Part{impl.Tree(html), impl.Tree("Content-Type: a/b; x=y; z=1\r\n\r\none")}
	hand := impl.Part{Kind: impl.Kind{Type: "MULTIPART"}, Kids: []impl.Part{{Kind: impl.Kind{Type: "MULTIPART", Params: shared[1].Kind.Params}, Kids: shared}, {Kind: impl.Kind{Params: shared[1].Kind.Params}, Kids: shared}}}
	reads := []func() impl.Part{
		func() impl.Part { return impl.Tree(raw) },
		func() impl.Part { p, _ := impl.PartAt(readPart(raw, 0, len(raw), 4), nil); return p },
		func() impl.Part { p, _ := impl.PartAt(hand, nil); return p },
	}
	for _, read := range reads {
		want := copied(read())
		for i := range want.Kids {
			p := read()
			spoil(&p.Kids[i])
			p.Kids[i] = want.Kids[i]
			if !sameParts(p, want) {
				t.Fatalf("the part %d shares memory with another one", i)
			}
		}
		p := read()
		for i := range cap(p.Kind.Params) {
			p.Kind.Params[:cap(p.Kind.Params)][i] = impl.Param{}
		}
		if !slices.EqualFunc(p.Kids, want.Kids, sameParts) {
			t.Fatal("the parameters share memory with a part")
		}
	}
	k, _ := impl.ReadKind("a/b;x=y")
	l, _ := impl.ReadKind("a/b;x=y")
	_ = append(k.Params, impl.Param{Name: "more"})
	k.Params[0] = impl.Param{Name: "changed"}
	if l.Params[0].Name != "X" {
		t.Fatal("two kinds share memory")
	}
}

// TestMimeReturnsForLongArguments has long and deep ones.
func TestMimeReturnsForLongArguments(t *testing.T) {
	for _, s := range []string{xs(200000), strings.Repeat(";", 200000), strings.Repeat("=", 200000), strings.Repeat("\"", 200000), strings.Repeat(" ", 200000), "a/" + xs(200000), "a/b;" + strings.Repeat(" ;", 100000), "a/b;x=\"" + strings.Repeat("\\", 200000) + "\"", "a/b" + strings.Repeat("/", 200000), allBytes()} {
		want, there := readKind(s)
		if got, ok := impl.ReadKind(s); ok != there || !sameKinds(got, want) {
			t.Errorf("ReadKind(%.20q) = %.20q, %v", s, got, ok)
		}
	}
	for _, raw := range []string{strings.Repeat("--b\r\n", 40000), strings.Repeat("--b", 40000), strings.Repeat("\r\n", 100000), strings.Repeat("-", 200000), strings.Repeat("--b \t\r\n\r\n", 20000), "--b" + strings.Repeat(" ", 200000), strings.Repeat("--b\r\n", 40000) + "--b--\r\n" + strings.Repeat("--b\r\n", 40000)} {
		if !slices.Equal(impl.Delims(raw, 0, len(raw), "b"), delimsOf(raw, 0, len(raw), "b")) {
			t.Errorf("the delimiters of %.20q", raw)
		}
		p := impl.Tree(mixed + raw)
		if !isWithin(p, 0, len(mixed+raw), 4) || !sameParts(p, readPart(mixed+raw, 0, len(mixed+raw), 4)) {
			t.Errorf("the parts of %.20q", raw)
		}
	}
	const levels = 20000
	raw := strings.Repeat(mail, levels) + "\r\nhello"
	p := impl.ReadPart(raw, 0, len(raw), math.MaxInt)
	if impl.Count(p) != levels+1 || !isWithin(p, 0, len(raw), levels) {
		t.Errorf("%d letters within each other have %d parts", levels, impl.Count(p))
	}
	path := slices.Repeat([]int{1}, levels)
	if got, ok := impl.PartAt(p, path); !ok || raw[got.Body:got.End] != "hello" {
		t.Errorf("the part at the end of a long path is %v, %v", got, ok)
	}
	if got, ok := impl.PartAt(p, path[:1]); !ok || impl.Count(got) != levels {
		t.Errorf("the part at the beginning of a long path has %d parts", impl.Count(got))
	}
	if _, ok := impl.PartAt(p, append(path, 2)); ok {
		t.Error("there is a second part in a leaf")
	}
	raw = ""
	for i := range 200 {
		raw += "Content-Type: multipart/mixed; boundary=m" + strconv.Itoa(i) + "\r\n\r\n--m" + strconv.Itoa(i) + "\r\n"
	}
	p = impl.ReadPart(raw, 0, len(raw), math.MaxInt)
	if impl.Count(p) != 201 || !sameParts(p, readPart(raw, 0, len(raw), math.MaxInt)) {
		t.Errorf("200 multiparts within each other have %d parts", impl.Count(p))
	}
}
