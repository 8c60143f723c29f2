package tests

import (
	"bytes"
	"regexp"
	"slices"
	"strings"
	"testing"

	"loop.example/g00785/impl"
)

// headEnd is HeadEnd as the document words it, by looking at every index.
func headEnd(raw string) int {
	for i := 2; i <= len(raw); i++ {
		if raw[i-2:i] == "\r\n" && (i == 2 || i >= 4 && raw[i-4:i-2] == "\r\n") {
			return i
		}
	}
	return len(raw)
}

func TestHeadEnd(t *testing.T) {
	for _, x := range []struct {
		raw string
		end int
	}{
		{"", 0}, {"a", 1}, {"A: b", 4}, {"\r", 1}, {"\n", 1}, {"\n\r", 2}, {"\r\r", 2}, {"\n\n", 2},
		{"\r\n", 2}, {"\r\nbody", 2}, {"\r\n\r\n", 2}, {"\r\n\r\nbody", 2}, {"\r\n\r\n\r\n", 2}, {"\r\n\nA: b\r\n\r\n", 2},
		{"A: b\r\n", 6}, {"A: b\r\n\r\n", 8}, {"A: b\r\n\r\nbody", 8}, {"A: b\r\n\r\n\r\n", 8}, {"A: b\r\n\r\n\r\n\r\nbody", 8},
		{"A: b\r\nC: d", 10}, {"A: b\r\nC: d\r\n", 12}, {"A: b\r\nC: d\r\n\r\ne\r\n\r\nf", 14},
		{"A: b\n\nbody", 10}, {"A: b\r\rbody", 10}, {"A: b\r\n\nbody", 11}, {"A: b\r\n\rbody", 11}, {"A: b\r\r\n\nbody", 12}, {"A: b\n\r\nbody", 11},
		{"A: b\r\n\r", 7}, {"A: b\r\n\n\r\nbody", 13}, {"A: b\r\n\r\r\nbody", 13}, {"A: b\r\r\n\r\nbody", 9}, {"A: b\n\r\n\r\nbody", 9},
		{"A: b\r\n \r\n\r\nbody", 11}, {"A: b\r\n\t\r\nbody", 13}, {" \r\n\r\nbody", 5}, {"\x00\r\n\r\n", 5}, {"\r\r\n\r\n", 5}, {"\n\r\n\r\n", 5},
		{strings.Repeat("A: b\r\n", 5000) + "\r\nbody", 30002}, {strings.Repeat("A: b\r\n", 5000), 30000}, {strings.Repeat("\r", 5000), 5000}, {strings.Repeat("\n\r", 5000), 5}, {strings.Repeat("\n\r\r", 5000), 15000},
	} {
		if got := impl.HeadEnd(x.raw); got != x.end {
			t.Errorf("HeadEnd(%.40q) = %d, want %d", x.raw, got, x.end)
		}
	}
}

func TestHeadEndByRule(t *testing.T) {
	for _, raw := range textsOf("\r\na ", 8) {
		if got, want := impl.HeadEnd(raw), headEnd(raw); got != want {
			t.Fatalf("HeadEnd(%q) = %d, want %d", raw, got, want)
		}
	}
}

// TestHeadEndsWhereBodyBegins puts bodies of all kinds behind headers of all kinds.
func TestHeadEndsWhereBodyBegins(t *testing.T) {
	for _, head := range []string{"", "A: b\r\n", "A: b\r\n c\r\n", "A: b\r\n \r\n", "no colon\r\n", " lost\r\n", "A: b\r\r\n", "\n\r\n", "A: b\r\nC: d\r\n\t\r\nE:\r\n"} {
		for _, body := range textsOf("\r\na", 6) {
			raw := head + "\r\n" + body
			if got := impl.HeadEnd(raw); got != len(head)+2 {
				t.Fatalf("HeadEnd(%q) = %d, want %d", raw, got, len(head)+2)
			}
		}
	}
}

var fieldForm = regexp.MustCompile(`(?s)^([!-9;-~]+):(.*)$`)

// fieldsOf is Fields as the document words it.
func fieldsOf(head string) []impl.Field {
	texts := []string{}
	for _, line := range strings.Split(head, "\r\n") {
		blank := line != "" && (line[0] == 32 || line[0] == 9)
		if blank && len(texts) > 0 {
			texts[len(texts)-1] += line
		} else if blank {
			continue
		} else {
			texts = append(texts, line)
		}
	}
	list := []impl.Field{}
	for _, text := range texts {
		if found := fieldForm.FindStringSubmatch(text); found != nil {
			list = append(list, impl.Field{Name: found[1], Body: strings.Trim(found[2], " \t")})
		}
	}
	return list
}

// checkFields compares Fields with the list of names and bodies in turn.
func checkFields(t *testing.T, head string, namesAndBodies ...string) {
	t.Helper()
	want := []impl.Field{}
	for pair := range slices.Chunk(namesAndBodies, 2) {
		want = append(want, impl.Field{Name: pair[0], Body: pair[1]})
	}
	if got := impl.Fields(head); !slices.Equal(got, want) {
		t.Errorf("Fields(%q) = %q, want %q", head, got, want)
	}
}

func TestFieldsOfLines(t *testing.T) {
	checkFields(t, "")
	checkFields(t, "\r\n")
	checkFields(t, "\r\n\r\n\r\n")
	checkFields(t, "A: b", "A", "b")
	checkFields(t, "A: b\r\n", "A", "b")
	checkFields(t, "A: b\r\n\r\n", "A", "b")
	checkFields(t, "\r\nA: b", "A", "b")
	checkFields(t, "A: b\r\nC: d", "A", "b", "C", "d")
	checkFields(t, "A: b\r\n\r\nC: d\r\n\r\n\r\nE: f", "A", "b", "C", "d", "E", "f")
	checkFields(t, "A: b\r\nA: c\r\na: d", "A", "b", "A", "c", "a", "d")
	checkFields(t, "A: b\nC: d", "A", "b\nC: d")
	checkFields(t, "A: b\rC: d", "A", "b\rC: d")
	checkFields(t, "A: b\n c", "A", "b\n c")
	checkFields(t, "A: b\n\r c", "A", "b\n\r c")
	checkFields(t, "A: b\r\n\nC: d", "A", "b")
	checkFields(t, "A: b\r\n\rC: d", "A", "b")
	checkFields(t, "A: b\r\r\nC: d", "A", "b\r", "C", "d")
	checkFields(t, "A: b\r\r\n c", "A", "b\r c")
	checkFields(t, "A: b\r", "A", "b\r")
	checkFields(t, "A: b\n", "A", "b\n")
	checkFields(t, "A: \r", "A", "\r")
	checkFields(t, "A:\n b", "A", "\n b")
	checkFields(t, "no colon\r\nA: b\r\nnone\r\nC: d", "A", "b", "C", "d")
	checkFields(t, "nothing but\r\nlines")
}

func TestFieldsOfContinuationLines(t *testing.T) {
	checkFields(t, "A: b\r\n c", "A", "b c")
	checkFields(t, "A: b\r\n\tc", "A", "b\tc")
	checkFields(t, "A: b \t\r\n \t c \t", "A", "b \t \t c")
	checkFields(t, "A: b\r\n c\r\n\td\r\n  e\r\nF: g\r\n h\r\n", "A", "b c\td  e", "F", "g h")
	checkFields(t, "A:\r\n b", "A", "b")
	checkFields(t, "A:\r\n \r\n\t\r\n b", "A", "b")
	checkFields(t, "A: b\r\n C: d", "A", "b C: d")
	checkFields(t, "A: b\r\n\tC: d\r\nE: f", "A", "b\tC: d", "E", "f")
	checkFields(t, "A: b\r\n ", "A", "b")
	checkFields(t, "A: b\r\n \r\n", "A", "b")
	checkFields(t, "A: b\r\n \t \r\n c", "A", "b \t  c")
	checkFields(t, "A: b\r\n \r\n\r\n c\r\nD: e", "A", "b", "D", "e")
	checkFields(t, "A: b\r\n\r\n c", "A", "b")
	checkFields(t, "A: b\r\n\vc", "A", "b")
	checkFields(t, "A: b\r\n\u00a0c: d", "A", "b")
	checkFields(t, "A: b\r\n\n c", "A", "b")
	checkFields(t, "A: b\r\n :c", "A", "b :c")
}

func TestFieldsOfContinuedNothing(t *testing.T) {
	checkFields(t, " lost")
	checkFields(t, " lost: a")
	checkFields(t, "\tlost: a\r\n more: b\r\nA: b", "A", "b")
	checkFields(t, " \r\nA: b", "A", "b")
	checkFields(t, " A: b\r\nC: d\r\n e", "C", "d e")
	checkFields(t, "\r\n A: b\r\nC: d", "C", "d")
	checkFields(t, "\r\n\tA: b")
	checkFields(t, "no colon\r\n A: b\r\nC: d", "C", "d")
	checkFields(t, "name\r\n :b\r\nC: d", "C", "d")
	checkFields(t, "name\r\n\t: b")
	checkFields(t, "bad name: b\r\n A: b\r\n\tC: d\r\nE: f", "E", "f")
	checkFields(t, ": b\r\n A: c\r\nE: f", "E", "f")
}

func TestFieldsOfNames(t *testing.T) {
	checkFields(t, ":")
	checkFields(t, ": b")
	checkFields(t, "::")
	checkFields(t, "::b")
	checkFields(t, ":A: b")
	checkFields(t, "A :b")
	checkFields(t, "A\t:b")
	checkFields(t, "A B: c")
	checkFields(t, "A\r: b")
	checkFields(t, "A\n: b")
	checkFields(t, "caf\u00e9: b")
	checkFields(t, "A:b", "A", "b")
	checkFields(t, "X-Long-Name_1.2!~: b", "X-Long-Name_1.2!~", "b")
	checkFields(t, "\"A\": b\r\n(A): c\r\n<A>: d\r\n\\,;@: e", "\"A\"", "b", "(A)", "c", "<A>", "d", "\\,;@", "e")
	checkFields(t, strings.Repeat("n", 5000)+": b", strings.Repeat("n", 5000), "b")
	checkFields(t, strings.Repeat("n", 5000)+" : b")
	for _, c := range []byte(allBytes()) {
		name := string([]byte{c})
		for _, text := range []string{name, name + "A", "A" + name, "A" + name + "B"} {
			if c >= 33 && c <= 126 && c != ':' {
				checkFields(t, text+": b", text, "b")
			} else if c != ':' || text[0] == ':' {
				checkFields(t, text+": b")
			} else {
				checkFields(t, text+": b", "A", text[2:]+": b")
			}
		}
	}
}

func TestFieldsOfBodies(t *testing.T) {
	checkFields(t, "A:", "A", "")
	checkFields(t, "A: ", "A", "")
	checkFields(t, "A: \t \t\r\n", "A", "")
	checkFields(t, "A:b", "A", "b")
	checkFields(t, "A: \t b  c \t ", "A", "b  c")
	checkFields(t, "A::", "A", ":")
	checkFields(t, "A:: :b:", "A", ": :b:")
	checkFields(t, "A:B:c", "A", "B:c")
	checkFields(t, "A: B: c", "A", "B: c")
	checkFields(t, "A: 10:20:30", "A", "10:20:30")
	checkFields(t, "A:\u00a0b\u00a0", "A", "\u00a0b\u00a0")
	checkFields(t, "A: \vb\f ", "A", "\vb\f")
	checkFields(t, "A: "+strings.Repeat(" x", 5000), "A", strings.Repeat(" x", 5000)[1:])
	for _, c := range []byte(allBytes()) {
		body := string([]byte{c})
		checkFields(t, "A:b"+body+"c\r\nD:e", "A", "b"+body+"c", "D", "e")
		if c != 9 && c != 32 {
			checkFields(t, "A: "+body+" \r\nD:e", "A", body, "D", "e")
		}
	}
}

func TestFieldsByRule(t *testing.T) {
	for _, head := range textsOf("A: \t\r\n", 7) {
		if got, want := impl.Fields(head), fieldsOf(head); !slices.Equal(got, want) {
			t.Fatalf("Fields(%q) = %q, want %q", head, got, want)
		}
	}
	tokens := []string{"A: b", "c", ":", " ", "\t", "\r\n", "\r\n ", "\r", "\n", "\x00", "\x7f", "\xe9"}
	for _, code := range textsOf("\x00\x01\x02\x03\x04\x05\x06\x07\x08\x09\x0a\x0b", 5) {
		head := ""
		for i := range len(code) {
			head += tokens[code[i]]
		}
		if got, want := impl.Fields(head), fieldsOf(head); !slices.Equal(got, want) {
			t.Fatalf("Fields(%q) = %q, want %q", head, got, want)
		}
	}
}

// TestContinuationBelongsToPrevious puts every short blank text behind a field: it is part of that field and of no other.
func TestContinuationBelongsToPrevious(t *testing.T) {
	for _, rest := range textsOf("\t a:\r\n", 5) {
		if strings.Contains(rest, "\r\n") {
			continue
		}
		for _, blank := range []string{" ", "\t"} {
			body := strings.Trim("b"+blank+rest, " \t")
			head := "Z: y\r\nA: b\r\n" + blank + rest
			checkFields(t, head+"\r\nC: d\r\n", "Z", "y", "A", body, "C", "d")
			checkFields(t, head, "Z", "y", "A", body)
			checkFields(t, head+"\r\n\r\n"+blank+rest+"\r\nC: d", "Z", "y", "A", body, "C", "d")
		}
	}
}

// TestFieldsAreRecovered writes lists of fields and reads them again, with a body behind them.
func TestFieldsAreRecovered(t *testing.T) {
	names := []string{"A", "a", "Subject", "X-1", "!", "~", "\"", "9;"}
	bodies := []string{"", "b", "b c", "b\t c", ":", ": :", "\r", "\n", "b\r", "\n\r", "\nb", "\r\r", "b\n c: d", "\x00\x7f\xe9", "caf\u00e9", "\u00a0"}
	for _, first := range bodies {
		for _, second := range bodies {
			for i, name := range names {
				list := []impl.Field{{Name: name, Body: first}, {Name: names[(i+1)%len(names)], Body: second}}
				head := impl.PutFields(list)
				if got := impl.Fields(head); !slices.Equal(got, list) {
					t.Fatalf("Fields(%q) = %q, want %q", head, got, list)
				}
				raw := head + "\r\n" + first + "\r\n\r\n" + second
				end := impl.HeadEnd(raw)
				if end != len(head)+2 || !slices.Equal(impl.Fields(raw[:end]), list) {
					t.Fatalf("the header of %q ends at %d, want %d", raw, end, len(head)+2)
				}
			}
		}
	}
}

// TestFieldsReadAgain writes whatever Fields reads: it reads the same again.
func TestFieldsReadAgain(t *testing.T) {
	for _, head := range append(textsOf("A: \r\n\n", 6), "A: b\r\n c\r\n\td\r\nE:f\r\n", allBytes(), "A:"+allBytes(), strings.Repeat("A:\r\n b\r\n\r\n c", 999)) {
		list := impl.Fields(head)
		text := impl.PutFields(list)
		if got := impl.Fields(text); !slices.Equal(got, list) || impl.PutFields(got) != text {
			t.Fatalf("Fields(%q) = %q, read again %q", head, list, got)
		}
	}
}

func TestBodyOf(t *testing.T) {
	list := []impl.Field{
		{Name: "Subject", Body: "one"}, {Name: "SUBJECT", Body: "two"}, {Name: "Empty"}, {Name: "empty", Body: "three"}, {Name: "", Body: "nameless"}, {Name: "bad name ", Body: "four"},
		{Name: "\u00e9", Body: "five"}, {Name: "[", Body: "six"}, {Name: "@", Body: "seven"}, {Name: "K", Body: "eight"}, {Name: "z:", Body: "nine"}, {Name: "Last", Body: " \r\n "},
	}
	for _, x := range []struct {
		name, body string
		found      bool
	}{
		{"Subject", "one", true}, {"subject", "one", true}, {"SUBJECT", "one", true}, {"sUBJECT", "one", true}, {"EMPTY", "", true}, {"Empty", "", true}, {"", "nameless", true}, {"BAD NAME ", "four", true},
		{"\u00e9", "five", true}, {"[", "six", true}, {"@", "seven", true}, {"k", "eight", true}, {"Z:", "nine", true}, {"LAST", " \r\n ", true},
		{"From", "", false}, {"Subject ", "", false}, {" Subject", "", false}, {"Subject:", "", false}, {"Subjec", "", false}, {"Subjects", "", false}, {"bad name", "", false},
		{"\u00c9", "", false}, {"{", "", false}, {"`", "", false}, {"\u212a", "", false}, {"\x00", "", false}, {"\xff", "", false}, {"z", "", false}, {"one", "", false},
	} {
		if body, found := impl.BodyOf(list, x.name); body != x.body || found != x.found {
			t.Errorf("BodyOf(%q) = %q, %v, want %q, %v", x.name, body, found, x.body, x.found)
		}
		if body, found := impl.BodyOf(nil, x.name); body != "" || found {
			t.Errorf("BodyOf(nil, %q) = %q, %v", x.name, body, found)
		}
		if body, found := impl.BodyOf([]impl.Field{}, x.name); body != "" || found {
			t.Errorf("BodyOf of no field and %q = %q, %v", x.name, body, found)
		}
	}
}

// bodyOf is BodyOf as the document words it.
func bodyOf(list []impl.Field, name string) (string, bool) {
	for _, f := range list {
		if impl.Same(f.Name, name) {
			return f.Body, true
		}
	}
	return "", false
}

func TestBodyOfByRule(t *testing.T) {
	names := []string{"a", "A", "b", "B", "aB", ""}
	for _, code := range textsOf("\x00\x01\x02\x03\x04\x05", 5) {
		var list []impl.Field
		for i := range len(code) {
			list = append(list, impl.Field{Name: names[code[i]], Body: string([]byte{'0' + byte(i)})})
		}
		for _, name := range append(names, "Ab", "c") {
			body, found := impl.BodyOf(list, name)
			if want, there := bodyOf(list, name); body != want || found != there {
				t.Fatalf("BodyOf(%q, %q) = %q, %v, want %q, %v", list, name, body, found, want, there)
			}
		}
	}
}

func TestPutFields(t *testing.T) {
	for _, x := range []struct {
		list []impl.Field
		text string
	}{
		{nil, ""}, {[]impl.Field{}, ""}, {[]impl.Field{{}}, ": \r\n"}, {[]impl.Field{{Name: "A"}}, "A: \r\n"}, {[]impl.Field{{Body: "b"}}, ": b\r\n"},
		{[]impl.Field{{Name: "A", Body: "b"}}, "A: b\r\n"}, {[]impl.Field{{Name: " A\t", Body: " b\t"}}, " A\t:  b\t\r\n"},
		{[]impl.Field{{Name: "A", Body: "b"}, {Name: "a", Body: "c"}, {Name: "A", Body: "b"}}, "A: b\r\na: c\r\nA: b\r\n"},
		{[]impl.Field{{Name: "bad name:", Body: "b\r\nC: d"}, {}, {Name: "\x00", Body: "\xff"}}, "bad name:: b\r\nC: d\r\n: \r\n\x00: \xff\r\n"},
	} {
		if got := impl.PutFields(x.list); got != x.text {
			t.Errorf("PutFields(%q) = %q, want %q", x.list, got, x.text)
		}
	}
}

// TestHeadLeavesArguments calls every function of the chapter on odd and long arguments and checks that they stay as they were and that no result is shared.
func TestHeadLeavesArguments(t *testing.T) {
	for _, s := range []string{
		"", allBytes(), xs(200000), strings.Repeat("\r\n", 100000), strings.Repeat("\r\n ", 70000), strings.Repeat("A:\r\n", 50000), "A:" + strings.Repeat("\r\n b", 50000), strings.Repeat(":", 200000), strings.Repeat("\r", 200000), strings.Repeat(" ", 200000),
	} {
		kept := bytes.Clone([]byte(s))
		if got, want := impl.HeadEnd(s), headEnd(s); got != want {
			t.Errorf("HeadEnd of %.20q = %d, want %d", s, got, want)
		}
		list := impl.Fields(s)
		own := slices.Clone(list)
		for i := range list {
			list[i] = impl.Field{Name: "changed", Body: "changed"}
		}
		_ = append(list, impl.Field{})
		if !slices.Equal(impl.Fields(s), own) {
			t.Fatalf("Fields of %.20q is not the same twice", s)
		}
		if s != string(kept) {
			t.Fatal("an argument was modified")
		}
		fields := append(make([]impl.Field, 0, len(own)+9), own...)
		fields = append(fields, impl.Field{Name: s, Body: s}, impl.Field{Name: "Spare", Body: "more"})
		before := slices.Clone(fields)
		given := fields[:len(own)+1]
		text := impl.PutFields(slices.Clip(slices.Clone(given)))
		body, found := impl.BodyOf(given, "Spare")
		if found || body != "" || impl.PutFields(given) != text {
			t.Errorf("more than the list is read of %.20q", s)
		}
		if body, found := impl.BodyOf(given, s); body != s || !found {
			t.Errorf("BodyOf of %.20q = %.20q, %v", s, body, found)
		}
		if !slices.Equal(fields, before) {
			t.Fatal("an argument was modified")
		}
	}
}
