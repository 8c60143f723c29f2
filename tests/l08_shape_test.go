package tests

import (
	"bytes"
	"math"
	"slices"
	"strconv"
	"strings"
	"testing"

	"loop.example/g00785/impl"
)

// envelopeText is Envelope as the document words it.
func envelopeText(head string) string {
	list := fieldsOf(head)
	text := func(name string) string {
		body, ok := bodyOf(list, name)
		if word := stringText(body); ok && word != "" {
			return word
		}
		return "NIL"
	}
	addrs := func(name string) string {
		body, _ := bodyOf(list, name)
		return addrsText(addrsOf(body))
	}
	sender, reply := addrs("Sender"), addrs("Reply-To")
	if sender == "NIL" {
		sender = addrs("From")
	}
	if reply == "NIL" {
		reply = addrs("From")
	}
	return "(" + strings.Join([]string{text("Date"), text("Subject"), addrs("From"), sender, reply, addrs("To"), addrs("Cc"), addrs("Bcc"), text("In-Reply-To"), text("Message-ID")}, " ") + ")"
}

// outerSpaces returns the number of spaces that separate the elements of the list that s is, or -1 if s is not one list with balanced parentheses. What stands in strings does not count.
func outerSpaces(s string) int {
	depth, spaces := 0, 0
	for at := 0; at < len(s); at++ {
		switch s[at] {
		case '(':
			depth++
		case ')':
			depth--
		case ' ':
			if depth == 1 {
				spaces++
			}
		case '"':
			for at++; at < len(s) && s[at] != '"'; at++ {
				if s[at] == '\\' {
					at++
				}
			}
		case '{':
			digits, rest, _ := strings.Cut(s[at+1:], "}\r\n")
			size, err := strconv.Atoi(digits)
			if err != nil || size > len(rest) {
				return -1
			}
			at += len("{") + len(digits) + len("}\r\n") + size - 1
		}
		if depth == 0 && at != len(s)-1 || depth < 0 || at >= len(s) {
			return -1
		}
	}
	if depth != 0 || s == "" {
		return -1
	}
	return spaces
}

// checkEnvelope compares the Envelope of a header with its ten elements.
func checkEnvelope(t *testing.T, head string, elements ...string) {
	t.Helper()
	got := impl.Envelope(head)
	if want := "(" + strings.Join(elements, " ") + ")"; got != want {
		t.Errorf("Envelope(%.200q) = %.400q, want %.400q", head, got, want)
	}
	if want := envelopeText(head); got != want {
		t.Errorf("Envelope(%.200q) = %.400q, by rule %.400q", head, got, want)
	}
	if outerSpaces(got) != 9 {
		t.Errorf("Envelope(%.200q) = %.400q is not one list of ten", head, got)
	}
}

// tenNils returns the elements of an empty envelope with some of them replaced: an index and a text in turn.
func tenNils(inTurn ...any) []string {
	list := slices.Repeat([]string{"NIL"}, 10)
	for pair := range slices.Chunk(inTurn, 2) {
		list[pair[0].(int)] = pair[1].(string)
	}
	return list
}

func TestEnvelopeWithoutFields(t *testing.T) {
	for _, head := range []string{
		"", "\r\n", "\r\n\r\n", " ", ":", "none", "X: y\r\n\r\n", "Date", "Date\r\n", "Date : Mon\r\n", " Date: Mon\r\n", ": Mon\r\n", "X-Date: Mon\r\nDates: Mon\r\nSub: a\r\nResent-From: a@b\r\nReplyTo: a@b\r\nReply_To: a@b\r\nReply: a@b\r\nT: a@b\r\nMessageID: <a@b>\r\nReferences: <a@b>\r\n",
		"X: Date: Mon\r\n", "X:\r\n Date: Mon\r\n", "X: y\nDate: Mon\r\n", "D\u0101te: Mon\r\n", "\x00\xff\r\n", allBytes(),
	} {
		checkEnvelope(t, head, tenNils()...)
	}
}

func TestEnvelopeOfEveryField(t *testing.T) {
	ann := `(("Ann" NIL "ann" "a.org"))`
	for i, name := range []string{"Date", "Subject", "From", "Sender", "Reply-To", "To", "Cc", "Bcc", "In-Reply-To", "Message-ID"} {
		want := tenNils(i, `"Ann <ann@a.org>"`)
		if i >= 2 && i <= 7 {
			want[i] = ann
		}
		if name == "From" {
			want[3], want[4] = ann, ann
		}
		for _, form := range []string{name, strings.ToUpper(name), strings.ToLower(name), strings.ToUpper(name[:2]) + strings.ToLower(name[2:])} {
			for _, around := range [][2]string{{":", ""}, {": ", "\r\n"}, {":\t ", " \t\r\n\r\n"}, {":\r\n ", "\r\nX: y\r\n"}, {": ", "\r\n" + name + ": second@b\r\n"}, {": ", "\r\n" + strings.ToUpper(name) + ":\r\n"}} {
				checkEnvelope(t, form+around[0]+"Ann <ann@a.org>"+around[1], want...)
				checkEnvelope(t, "X: y\r\nno field\r\n"+form+around[0]+"Ann <ann@a.org>"+around[1], want...)
			}
		}
		for _, head := range []string{name + "Ann <ann@a.org>", name + " : Ann <ann@a.org>", "X" + name + ": Ann <ann@a.org>", name + "s: Ann <ann@a.org>", "\t" + name + ": Ann <ann@a.org>"} {
			checkEnvelope(t, head, tenNils()...)
		}
	}
}

func TestEnvelopeOfAllFields(t *testing.T) {
	lines := []string{
		"Date: Mon, 1 Jan\r\n", "Subject: a \"b\"\r\n (c)\r\n", "From: Ann <ann@a>, f@f\r\n", "Sender: s@s\r\n", "Reply-To: \"R, r\" <r@r>\r\n", "To: t@t\r\n", "Cc: b@b, none, c@c\r\n", "Bcc: <x@x>\r\n", "In-Reply-To: <1@x>\r\n", "Message-ID: <2@x>\r\n",
	}
	want := []string{
		`"Mon, 1 Jan"`, `"a \"b\" (c)"`, `(("Ann" NIL "ann" "a")(NIL NIL "f" "f"))`, `((NIL NIL "s" "s"))`, `(("R, r" NIL "r" "r"))`, `((NIL NIL "t" "t"))`, `((NIL NIL "b" "b")(NIL NIL "c" "c"))`, `((NIL NIL "x" "x"))`, `"<1@x>"`, `"<2@x>"`,
	}
	checkEnvelope(t, strings.Join(lines, ""), want...)
	checkEnvelope(t, strings.Join(lines, "")+"\r\n", want...)
	checkEnvelope(t, strings.Join(lines, "X: y\r\n"), want...)
	checkEnvelope(t, strings.Join(lines, "")+strings.Join(lines, "z"), want...)
	backward := slices.Clone(lines)
	slices.Reverse(backward)
	checkEnvelope(t, strings.Join(backward, ""), want...)
	// The whole of head counts, also what stands behind an empty line.
	checkEnvelope(t, strings.Join(lines[:5], "")+"\r\n"+strings.Join(lines[5:], ""), want...)
}

// TestEnvelopeOfFieldsTwice has the first field count, also where it is empty or of no use.
func TestEnvelopeOfFieldsTwice(t *testing.T) {
	checkEnvelope(t, "Subject: a\r\nSUBJECT: b\r\nsubject: c\r\n", tenNils(1, `"a"`)...)
	checkEnvelope(t, "SUBJECT: b\r\nSubject: a\r\n", tenNils(1, `"b"`)...)
	checkEnvelope(t, "Subject:\r\nSubject: a\r\n", tenNils(1, `""`)...)
	checkEnvelope(t, "Subject: \x00\r\nSubject: a\r\n", tenNils()...)
	checkEnvelope(t, "Message-ID: "+xs(401)+"\r\nMessage-ID: a\r\n", tenNils()...)
	checkEnvelope(t, "To: a@a\r\nTo: b@b\r\n", tenNils(5, `((NIL NIL "a" "a"))`)...)
	checkEnvelope(t, "To:\r\nTo: b@b\r\n", tenNils()...)
	checkEnvelope(t, "To: none\r\nTo: b@b\r\n", tenNils()...)
	checkEnvelope(t, "From:\r\nFrom: b@b\r\nSender: none\r\n", tenNils()...)
	checkEnvelope(t, "From: a@a\r\nSender:\r\nSender: b@b\r\n", tenNils(2, `((NIL NIL "a" "a"))`, 3, `((NIL NIL "a" "a"))`, 4, `((NIL NIL "a" "a"))`)...)
}

func TestEnvelopeOfTexts(t *testing.T) {
	for _, x := range [][2]string{
		{"", `""`}, {" \t", `""`}, {"\r\n ", `""`}, {"a", `"a"`}, {"NIL", `"NIL"`}, {"a: b", `"a: b"`}, {`"`, `"\""`}, {`\(`, `"\\("`}, {"))((", `"))(("`}, {"{3}", `"{3}"`},
		{"a\r\n b", `"a b"`}, {"a\r\n\tb", "{3}\r\na\tb"}, {"caf\u00e9", "{5}\r\ncaf\u00e9"}, {"(\xff", "{2}\r\n(\xff"}, {"a\rb", "{3}\r\na\rb"}, {"a\nb", "{3}\r\na\nb"}, {"\x7f", "{1}\r\n\x7f"},
		{xs(60), `"` + xs(60) + `"`}, {xs(61), "{61}\r\n" + xs(61)}, {strings.Repeat("(", 400), "{400}\r\n" + strings.Repeat("(", 400)}, {xs(400), "{400}\r\n" + xs(400)},
		{xs(401), "NIL"}, {xs(5000), "NIL"}, {"\x00", "NIL"}, {"a\x00", "NIL"}, {"a\r\n \x00b", "NIL"}, {xs(61) + "\x00", "NIL"},
	} {
		for i, name := range map[int]string{0: "Date", 1: "Subject", 8: "In-Reply-To", 9: "Message-ID"} {
			checkEnvelope(t, name+":"+x[0]+"\r\n", tenNils(i, x[1])...)
			checkEnvelope(t, "X: y\r\n"+name+": "+x[0], tenNils(i, x[1])...)
		}
	}
	for _, s := range append(sizedTexts(), textsOf(allBytes(), 1)...) {
		for _, name := range []string{"Date", "subject", "IN-REPLY-TO", "Message-Id"} {
			head := name + ": (" + s + ")\r\n"
			if got, want := impl.Envelope(head), envelopeText(head); got != want || outerSpaces(got) != 9 {
				t.Fatalf("Envelope(%.100q) = %.200q, want %.200q", head, got, want)
			}
		}
	}
}

// TestEnvelopeOfSenders has all kinds of Sender and Reply-To beside all kinds of From.
func TestEnvelopeOfSenders(t *testing.T) {
	forms := [][2]string{{"", "NIL"}, {"NAME:\r\n", "NIL"}, {"NAME: \t\r\n", "NIL"}, {"NAME: none\r\n", "NIL"}, {"NAME: NIL\r\n", "NIL"}, {"NAME: ,@, <>, x@\r\n", "NIL"}, {"NAME: NAME@x\r\n", `((NIL NIL "NAME" "x"))`}, {"NAME:none, A <NAME@x>, b@y\r\n", `(("A" NIL "NAME" "x")(NIL NIL "b" "y"))`}, {"NAME: \"\x00\" <NAME@x>\r\n", `(( NIL "NAME" "x"))`}}
	for _, from := range forms {
		for _, sender := range forms {
			for _, reply := range forms {
				head := strings.ReplaceAll(from[0], "NAME", "From") + strings.ReplaceAll(reply[0], "NAME", "Reply-To") + strings.ReplaceAll(sender[0], "NAME", "Sender") + "To: t@t\r\n"
				want := tenNils(2, strings.ReplaceAll(from[1], "NAME", "From"), 3, strings.ReplaceAll(sender[1], "NAME", "Sender"), 4, strings.ReplaceAll(reply[1], "NAME", "Reply-To"), 5, `((NIL NIL "t" "t"))`)
				for i := 3; i <= 4; i++ {
					if want[i] == "NIL" {
						want[i] = want[2]
					}
				}
				checkEnvelope(t, head, want...)
			}
		}
	}
}

func TestEnvelopeOfAddresses(t *testing.T) {
	checkEnvelope(t, "To: \"B, (A\" <a@b>\r\nCc: caf\u00e9 <(@)>\r\nBcc: A\r\n <x@y>,\r\n\tz@z\r\n", tenNils(5, `(("B, (A" NIL "a" "b"))`, 6, "(({5}\r\ncaf\u00e9 NIL \"(\" \")\"))", 7, `(("A" NIL "x" "y")(NIL NIL "z" "z"))`)...)
	checkEnvelope(t, "Cc: "+xs(61)+"@"+xs(400)+"\r\n", tenNils(6, "((NIL NIL {61}\r\n"+xs(61)+" {400}\r\n"+xs(400)+"))")...)
	// AddrText writes nothing for what PutString refuses.
	checkEnvelope(t, "Cc: "+xs(401)+" <"+xs(401)+"@"+xs(401)+">\r\n", tenNils(6, "(( NIL  ))")...)
	checkEnvelope(t, "Bcc: "+strings.Repeat("a@b,", 999)+"\r\n", tenNils(7, "("+strings.Repeat(`(NIL NIL "a" "b")`, 999)+")")...)
}

func TestEnvelopeByRule(t *testing.T) {
	lines := []string{"Date: (\r\n", "subject:\r\n", "Message-ID: \x00\r\n", "From: f@f\r\n", "FROM: ) <f@f>, g@g\r\n", "Sender: s@s\r\n", "Sender:\r\n", "Reply-To: none\r\n", " , r@r\r\n", "\r\n"}
	for _, code := range textsOf("\x00\x01\x02\x03\x04\x05\x06\x07\x08\x09", 4) {
		head := ""
		for i := range len(code) {
			head += lines[code[i]]
		}
		if got, want := impl.Envelope(head), envelopeText(head); got != want || outerSpaces(got) != 9 {
			t.Fatalf("Envelope(%q) = %q, want %q", head, got, want)
		}
	}
}

// paramsText is ParamText as the document words it.
func paramsText(list []impl.Param) string {
	words := []string{}
	for _, p := range list {
		words = append(words, stringText(p.Name), stringText(p.Value))
	}
	if len(words) == 0 {
		return "NIL"
	}
	return "(" + strings.Join(words, " ") + ")"
}

func TestParamText(t *testing.T) {
	for _, x := range []struct {
		list []impl.Param
		text string
	}{
		{nil, `NIL`}, {[]impl.Param{}, `NIL`}, {[]impl.Param{{}}, `("" "")`}, {[]impl.Param{{}, {}}, `("" "" "" "")`}, {[]impl.Param{{Name: "X", Value: "y"}}, `("X" "y")`}, {[]impl.Param{{Name: "X"}}, `("X" "")`}, {[]impl.Param{{Value: "y"}}, `("" "y")`},
		{[]impl.Param{{Name: "B", Value: "1"}, {Name: "A", Value: "2"}, {Name: "B", Value: "1"}}, `("B" "1" "A" "2" "B" "1")`}, {[]impl.Param{{Name: "NIL", Value: "nil"}}, `("NIL" "nil")`}, {[]impl.Param{{Name: "x y", Value: ")("}}, `("x y" ")(")`},
		{[]impl.Param{{Name: `a"`, Value: `\`}, {Name: "Z", Value: `"q"`}}, `("a\"" "\\" "Z" "\"q\"")`},
		{[]impl.Param{{Name: "X", Value: "a\r\n"}, {Name: "caf\u00e9", Value: "\x7f"}}, "(\"X\" {3}\r\na\r\n {5}\r\ncaf\u00e9 {1}\r\n\x7f)"},
		{[]impl.Param{{Name: xs(60), Value: xs(61)}}, `("` + xs(60) + "\" {61}\r\n" + xs(61) + ")"}, {[]impl.Param{{Name: xs(61), Value: xs(60)}}, "({61}\r\n" + xs(61) + ` "` + xs(60) + `")`}, {[]impl.Param{{Name: "X", Value: xs(400)}}, "(\"X\" {400}\r\n" + xs(400) + ")"},
		// PutString is empty, and so is its place.
		{[]impl.Param{{Name: "X", Value: "\x00"}}, `("X" )`}, {[]impl.Param{{Name: "X", Value: xs(401)}, {Name: "Y", Value: "z"}}, `("X"  "Y" "z")`}, {[]impl.Param{{Name: "\x00", Value: "y"}}, `( "y")`}, {[]impl.Param{{Name: xs(401), Value: "a\x00"}}, `( )`},
	} {
		if got := impl.ParamText(x.list); got != x.text {
			t.Errorf("ParamText(%.200q) = %.400q, want %.400q", x.list, got, x.text)
		}
	}
	for _, s := range append(sizedTexts(), textsOf(allBytes(), 1)...) {
		list := []impl.Param{{Name: "A", Value: s}, {Name: s, Value: "b"}, {Name: s, Value: s}, {Name: "C", Value: "d"}}
		for to := range len(list) + 1 {
			got := impl.ParamText(list[:to])
			if want := paramsText(list[:to]); got != want {
				t.Fatalf("ParamText(%.200q) = %.400q, want %.400q", list[:to], got, want)
			}
			if to > 0 && outerSpaces(got) != 2*to-1 {
				t.Fatalf("ParamText(%.200q) = %.400q is not one list of %d", list[:to], got, 2*to)
			}
		}
	}
}

// TestParamTextIsReadAgain reads the words of the text of parameters that were read.
func TestParamTextIsReadAgain(t *testing.T) {
	for _, s := range []string{"x=y", `charset="utf-8"; name="a (b).txt"`, "q=\"\";r=\"\\\\\"", "x=\"caf\u00e9\r\n\"; y=\"" + xs(400) + "\"", strings.Repeat("nil=NIL;", 99)} {
		k, ok := impl.ReadKind("a/b;" + s)
		if !ok || len(k.Params) == 0 {
			t.Fatalf("ReadKind of %q = %q, %v", s, k, ok)
		}
		text := impl.ParamText(k.Params)
		at := 0
		before := byte('(')
		for _, p := range k.Params {
			for _, want := range []string{p.Name, p.Value} {
				value, next := impl.GetWord(text, at+1)
				if text[at] != before || value != want || next < 0 {
					t.Fatalf("ParamText(%q) = %q, at %d %q, want %q", k.Params, text, at, value, want)
				}
				at = next
				before = ' '
			}
		}
		if text[at:] != ")" {
			t.Fatalf("ParamText(%q) = %q", k.Params, text)
		}
	}
}

// shapeText is the body structure of a part as the document words it, without the question whether it was read.
func shapeText(raw string, p impl.Part) string {
	if p.Kind.Type == "MULTIPART" && len(p.Kids) > 0 {
		text := "("
		for _, kid := range p.Kids {
			text += shapeText(raw, kid)
		}
		return text + " " + quoteText(p.Kind.Sub) + ")"
	}
	body := raw[p.Body:p.End]
	text := "(" + quoteText(p.Kind.Type) + " " + quoteText(p.Kind.Sub) + " " + paramsText(p.Kind.Params) + ` NIL NIL "7BIT" ` + strconv.Itoa(len(body))
	if p.Kind.Type == "MESSAGE" && len(p.Kids) > 0 {
		text += " " + envelopeText(raw[p.Kids[0].Head:p.Kids[0].Body]) + " " + shapeText(raw, p.Kids[0])
	}
	if p.Kind.Type == "TEXT" || p.Kind.Type == "MESSAGE" && len(p.Kids) > 0 {
		text += " " + strconv.Itoa(linesOf(body))
	}
	return text + ")"
}

// shapeOf is Shape as the document words it.
func shapeOf(raw string, p impl.Part) string {
	for deep := range 5 {
		if sameParts(p, readPart(raw, p.Head, p.End, deep)) {
			return shapeText(raw, p)
		}
	}
	return "NIL"
}

// inAll returns p and all parts in it.
func inAll(p impl.Part) []impl.Part {
	list := []impl.Part{p}
	for _, kid := range p.Kids {
		list = append(list, inAll(kid)...)
	}
	return list
}

// isShape reports whether s is the body structure of p as far as its parentheses and the number of its elements go.
func isShape(s string, p impl.Part) bool {
	spaces := 6
	switch {
	case p.Kind.Type == "MULTIPART":
		spaces = 1
	case p.Kind.Type == "TEXT":
		spaces = 7
	case len(p.Kids) > 0:
		spaces = 9
	}
	return outerSpaces(s) == spaces
}

// arounds are bytes that do not belong to a part.
var arounds = [][2]string{{"", ""}, {"x", ""}, {"", "\r\n"}, {"\r\n", "\r\n\r\n"}, {"Content-Type: a/b\r\n", "--b--\r\n"}, {"Subject: (\r\n", ")"}, {"--b\r\n", " x\x00"}}

// checkShapes compares the Shape of p and of every part in it with the rule, between whatever other bytes.
func checkShapes(t *testing.T, raw string, p impl.Part) {
	t.Helper()
	for _, part := range inAll(p) {
		want := shapeOf(raw, part)
		if want == "NIL" || !isShape(want, part) {
			t.Fatalf("the part %v of %.200q has the shape %.400q", part, raw, want)
		}
		for _, around := range arounds {
			if got := impl.Shape(around[0]+raw+around[1], moved(part, len(around[0]))); got != want {
				t.Fatalf("Shape(%.200q, %v) between %q is %.400q, want %.400q", raw, part, around, got, want)
			}
		}
		if got := impl.Shape(raw[part.Head:part.End], moved(part, -part.Head)); got != want {
			t.Fatalf("Shape(%.200q) alone is %.400q, want %.400q", raw[part.Head:part.End], got, want)
		}
	}
}

// checkShape compares the Shape of the Tree of a text with a list that may be divided into pieces.
func checkShape(t *testing.T, raw string, pieces ...string) {
	t.Helper()
	p := impl.Tree(raw)
	if got, want := impl.Shape(raw, p), strings.Join(pieces, ""); got != want {
		t.Errorf("Shape(%.200q) = %.400q, want %.400q", raw, got, want)
	}
	checkShapes(t, raw, p)
}

func checkNoShape(t *testing.T, raw string, p impl.Part) {
	t.Helper()
	if got := impl.Shape(raw, p); got != "NIL" {
		t.Errorf("Shape(%.200q, %v) = %.400q, want NIL", raw, p, got)
	}
}

func TestShapeOfTexts(t *testing.T) {
	for _, x := range [][2]string{{"", "0 0"}, {"a", "1 1"}, {"\r\n", "2 1"}, {"a\r\n", "3 1"}, {"a\r\nb", "4 2"}, {"a\r\nb\r\n", "6 2"}, {"a\r\n\r\n", "5 2"}, {"\r\n\r\nb", "5 3"}, {"a\nb\rc", "5 1"}, {"a\r", "2 1"}, {"\x00\xff()\"", "5 1"}, {strings.Repeat("ab\r\n", 5000) + "c", "20001 5001"}} {
		checkShape(t, "\r\n"+x[0], `("TEXT" "PLAIN" NIL NIL NIL "7BIT" `, x[1], `)`)
		checkShape(t, "Subject: x\r\n\r\n"+x[0], `("TEXT" "PLAIN" NIL NIL NIL "7BIT" `, x[1], `)`)
		checkShape(t, html+x[0], `("TEXT" "HTML" NIL NIL NIL "7BIT" `, x[1], `)`)
		checkShape(t, "Content-Type: bad\r\n\r\n"+x[0], `("TEXT" "PLAIN" NIL NIL NIL "7BIT" `, x[1], `)`)
		checkShape(t, "Content-Type: text/rfc822; a=b\r\n\r\n"+x[0], `("TEXT" "RFC822" ("A" "b") NIL NIL "7BIT" `, x[1], `)`)
	}
	for _, raw := range []string{"", "x", "Subject: x", "Subject: x\r\n", "\r\n"} {
		checkShape(t, raw, `("TEXT" "PLAIN" NIL NIL NIL "7BIT" 0 0)`)
	}
	for _, body := range textsOf("\r\na", 6) {
		raw := html + body
		if got, want := impl.Shape(raw, impl.Tree(raw)), `("TEXT" "HTML" NIL NIL NIL "7BIT" `+strconv.Itoa(len(body))+" "+strconv.Itoa(linesOf(body))+`)`; got != want {
			t.Fatalf("Shape(%q) = %q, want %q", raw, got, want)
		}
	}
}

func TestShapeOfOtherTypes(t *testing.T) {
	for _, x := range [][2]string{
		{"image/png", `"IMAGE" "PNG" NIL`}, {"image/png; name=x", `"IMAGE" "PNG" ("NAME" "x")`}, {"Application/X; b=\"(\"; a=\"\"; b=c", `"APPLICATION" "X" ("B" "(" "A" "" "B" "c")`}, {"texts/plain", `"TEXTS" "PLAIN" NIL`}, {"tex/t", `"TEX" "T" NIL`}, {"messages/rfc822", `"MESSAGES" "RFC822" NIL`},
		{"message/partial", `"MESSAGE" "PARTIAL" NIL`}, {"message/rfc8222; x=y", `"MESSAGE" "RFC8222" ("X" "y")`}, {"multiparts/mixed; boundary=b", `"MULTIPARTS" "MIXED" ("BOUNDARY" "b")`}, {"nil/nil", `"NIL" "NIL" NIL`}, {"{3}/+", `"{3}" "+" NIL`},
		{"a/b; x=\"caf\u00e9\"", "\"A\" \"B\" (\"X\" {5}\r\ncaf\u00e9)"}, {"a/b; x=\"\t\x00\"", `"A" "B" ("X" )`}, {"a/b; x=" + xs(401) + "; y=z", `"A" "B" ("X"  "Y" "z")`}, {"a/b; x=" + xs(61), "\"A\" \"B\" (\"X\" {61}\r\n" + xs(61) + ")"}, {"a/b; x=\"\\\\\"", `"A" "B" ("X" "\\")`},
		// Types are quoted, however long they are.
		{strings.Repeat("a", 61) + "/" + strings.Repeat("b", 401), `"` + strings.Repeat("A", 61) + `" "` + strings.Repeat("B", 401) + `" NIL`},
		// A part of a type of many that has none, or that is not read.
		{"multipart/mixed", `"APPLICATION" "OCTET-STREAM" NIL`}, {"multipart/mixed; boundary=b", `"APPLICATION" "OCTET-STREAM" NIL`}, {"multipart/mixed; boundary=\"\"", `"APPLICATION" "OCTET-STREAM" NIL`},
	} {
		for _, body := range []string{"", "x", "one\r\ntwo\r\n", "--b--\r\n", "From: a@b\r\n\r\n"} {
			checkShape(t, "Content-Type: "+x[0]+"\r\n\r\n"+body, `(`, x[1], ` NIL NIL "7BIT" `, strconv.Itoa(len(body)), `)`)
		}
	}
}

func TestShapeOfMultiparts(t *testing.T) {
	checkShape(t, mixed+"--b", `(("TEXT" "PLAIN" NIL NIL NIL "7BIT" 0 0) "MIXED")`)
	checkShape(t, mixed+"--b\r\n\r\none\r\n--b--", `(("TEXT" "PLAIN" NIL NIL NIL "7BIT" 3 1) "MIXED")`)
	checkShape(t, mixed+"pre\r\n--b\r\n\r\none\r\nline\r\n--b\r\nContent-Type: image/png; name=x\r\n\r\ntwo\r\n--b--\r\npost", `(("TEXT" "PLAIN" NIL NIL NIL "7BIT" 9 2)`, `("IMAGE" "PNG" ("NAME" "x") NIL NIL "7BIT" 3)`, ` "MIXED")`)
	checkShape(t, mixed+"--b\r\n--b\r\n--b\r\n\r\n\r\n--b", `(("TEXT" "PLAIN" NIL NIL NIL "7BIT" 0 0)`, `("TEXT" "PLAIN" NIL NIL NIL "7BIT" 0 0)`, `("TEXT" "PLAIN" NIL NIL NIL "7BIT" 0 0)`, `("TEXT" "PLAIN" NIL NIL NIL "7BIT" 0 0)`, ` "MIXED")`)
	checkShape(t, mixed+"--b\r\n"+other+"--c d\r\n"+html+"one\r\n--c d\r\n\r\ntwo\r\n--c d--\r\n--b\r\n\r\nthree\r\n\r\n--b--", `((("TEXT" "HTML" NIL NIL NIL "7BIT" 3 1)`, `("TEXT" "PLAIN" NIL NIL NIL "7BIT" 3 1)`, ` "OTHER")`, `("TEXT" "PLAIN" NIL NIL NIL "7BIT" 7 1)`, ` "MIXED")`)
	checkShape(t, mixed+"--b\r\n"+other+"--c d\r\n"+mixed+"--b\r\n", `((("APPLICATION" "OCTET-STREAM" NIL NIL NIL "7BIT" 0)`, ` "OTHER")`, `("TEXT" "PLAIN" NIL NIL NIL "7BIT" 0 0)`, ` "MIXED")`)
	checkShape(t, mixed+"--b\r\n"+other+"nothing\r\n--b--", `(("APPLICATION" "OCTET-STREAM" NIL NIL NIL "7BIT" 7)`, ` "MIXED")`)
	checkShape(t, "Content-Type: multipart/"+xs(401)+"; boundary=b; x=\x7f\r\n\r\n--b", `("TEXT" "PLAIN" NIL NIL NIL "7BIT" 3 1)`)
	checkShape(t, "Content-Type: multipart/"+xs(401)+"; boundary=b; x=y\r\n\r\n--b", `(("TEXT" "PLAIN" NIL NIL NIL "7BIT" 0 0) "`, strings.Repeat("X", 401), `")`)
	// The parameters of a multipart are not told, nor its header.
	checkShape(t, "Subject: (\r\nContent-Type: multipart/x; boundary=b; name=\"(\"\r\n\r\n--b", `(("TEXT" "PLAIN" NIL NIL NIL "7BIT" 0 0) "X")`)
}

const nilEnvelope = `(NIL NIL NIL NIL NIL NIL NIL NIL NIL NIL)`

func TestShapeOfLetters(t *testing.T) {
	checkShape(t, mail, `("MESSAGE" "RFC822" NIL NIL NIL "7BIT" 0 `, nilEnvelope, ` ("TEXT" "PLAIN" NIL NIL NIL "7BIT" 0 0) 0)`)
	checkShape(t, mail+"\r\n", `("MESSAGE" "RFC822" NIL NIL NIL "7BIT" 2 `, nilEnvelope, ` ("TEXT" "PLAIN" NIL NIL NIL "7BIT" 0 0) 1)`)
	checkShape(t, mail+"Subject: in\r\n\r\nbody", `("MESSAGE" "RFC822" NIL NIL NIL "7BIT" 19 (NIL "in" NIL NIL NIL NIL NIL NIL NIL NIL) ("TEXT" "PLAIN" NIL NIL NIL "7BIT" 4 1) 3)`)
	checkShape(t, "Content-Type: message/rfc822; x=y; x=\"(\"\r\n\r\nSubject: in\r\n\r\none\r\ntwo\r\n", `("MESSAGE" "RFC822" ("X" "y" "X" "(") NIL NIL "7BIT" 25 (NIL "in" NIL NIL NIL NIL NIL NIL NIL NIL) ("TEXT" "PLAIN" NIL NIL NIL "7BIT" 10 2) 4)`)
	// The envelope is that of the letter's own header: not of the one around it, nor of its body.
	checkShape(t, "Subject: out\r\nContent-Type: message/rfc822\r\n\r\nSubject: in\r\nFrom: a@b\r\n\r\nSubject: body\r\nTo: c@d\r\n", `("MESSAGE" "RFC822" NIL NIL NIL "7BIT" 50 (NIL "in" ((NIL NIL "a" "b")) ((NIL NIL "a" "b")) ((NIL NIL "a" "b")) NIL NIL NIL NIL NIL) ("TEXT" "PLAIN" NIL NIL NIL "7BIT" 24 2) 5)`)
	checkShape(t, "Subject: out\r\nContent-Type: message/rfc822\r\n\r\n\r\nSubject: body\r\n", `("MESSAGE" "RFC822" NIL NIL NIL "7BIT" 17 `, nilEnvelope, ` ("TEXT" "PLAIN" NIL NIL NIL "7BIT" 15 1) 2)`)
	checkShape(t, mail+"Date: x", `("MESSAGE" "RFC822" NIL NIL NIL "7BIT" 7 ("x" NIL NIL NIL NIL NIL NIL NIL NIL NIL) ("TEXT" "PLAIN" NIL NIL NIL "7BIT" 0 0) 1)`)
	checkShape(t, mail+"Subject: \x00\r\nTo: (\r\n\r\n", `("MESSAGE" "RFC822" NIL NIL NIL "7BIT" 21 `, nilEnvelope, ` ("TEXT" "PLAIN" NIL NIL NIL "7BIT" 0 0) 3)`)
	checkShape(t, mail+"Content-Type: image/png\r\n\r\na\r\nb", `("MESSAGE" "RFC822" NIL NIL NIL "7BIT" 31 `, nilEnvelope, ` ("IMAGE" "PNG" NIL NIL NIL "7BIT" 4) 4)`)
}

func TestShapeOfLettersWithinLetters(t *testing.T) {
	letter := "Subject: A\r\n" + mail + "Subject: B\r\n" + mail + "Subject: C\r\n\r\nend"
	inner := `(NIL "C" NIL NIL NIL NIL NIL NIL NIL NIL) ("TEXT" "PLAIN" NIL NIL NIL "7BIT" 3 1)`
	checkShape(t, letter, `("MESSAGE" "RFC822" NIL NIL NIL "7BIT" 61 (NIL "B" NIL NIL NIL NIL NIL NIL NIL NIL) ("MESSAGE" "RFC822" NIL NIL NIL "7BIT" 17 `, inner, ` 3) 6)`)
	// A letter that is a multipart, a letter in one, and one in a letter in one.
	two := "To: a@b\r\n" + mixed + "--b\r\n\r\none\r\n--b\r\n" + html + "two\r\n\r\n--b--"
	inner = `(NIL NIL NIL NIL NIL ((NIL NIL "a" "b")) NIL NIL NIL NIL) (("TEXT" "PLAIN" NIL NIL NIL "7BIT" 3 1)("TEXT" "HTML" NIL NIL NIL "7BIT" 5 1) "MIXED")`
	checkShape(t, mail+two, `("MESSAGE" "RFC822" NIL NIL NIL "7BIT" 110 `, inner, ` 12)`)
	checkShape(t, other+"--c d\r\n"+mail+two+"\r\n--c d--", `(("MESSAGE" "RFC822" NIL NIL NIL "7BIT" 110 `, inner, ` 12) "OTHER")`)
	checkShape(t, mail+other+"--c d\r\n"+mail+two+"\r\n--c d\r\n"+mail+"Date: d\r\n\r\n", `("MESSAGE" "RFC822" NIL NIL NIL "7BIT" `, strconv.Itoa(len(other)+2*len(mail)+110+27), ` `, nilEnvelope, ` (("MESSAGE" "RFC822" NIL NIL NIL "7BIT" 110 `, inner, ` 12)("MESSAGE" "RFC822" NIL NIL NIL "7BIT" 11 ("d" NIL NIL NIL NIL NIL NIL NIL NIL NIL) ("TEXT" "PLAIN" NIL NIL NIL "7BIT" 0 0) 2) "OTHER") 22)`)
	// At MaxDeep no letter is read.
	text := `("APPLICATION" "OCTET-STREAM" NIL NIL NIL "7BIT" 32)`
	for level := 1; level <= 4; level++ {
		size := strconv.Itoa((level + 1) * 32)
		text = `("MESSAGE" "RFC822" NIL NIL NIL "7BIT" ` + size + " " + nilEnvelope + " " + text + " " + strconv.Itoa(2*level+2) + ")"
	}
	checkShape(t, strings.Repeat(mail, 6), text)
}

// nested returns a text with parts of all kinds in each other, and with more levels than are read.
func nested() string {
	raw := mail + "Subject: (\r\n"
	for i := range 6 {
		mark := strconv.Itoa(i)
		raw += "Content-Type: multipart/mixed; boundary=" + mark + "\r\n\r\n--" + mark + "\r\nContent-Type: a/b; x=y\r\n\r\none\r\n--" + mark + "\r\n" + mail + "Date: )\r\n"
	}
	return raw + "\r\nend"
}

func TestShapeOfEveryDepth(t *testing.T) {
	for _, raw := range []string{nested(), strings.Repeat(mail, 9), mail + mail + "\r\nend", mixed + "--b\r\n" + other + "--c d", html + "end", mixed} {
		for _, deep := range []int{math.MinInt, -1, 0, 1, 2, 3, 4, 5, 6, 7, 100, math.MaxInt} {
			p := readPart(raw, 0, len(raw), deep)
			// With more than MaxDeep a part may be the same, if there are no more levels in it.
			if deep > 4 && !sameParts(p, readPart(raw, 0, len(raw), 4)) {
				checkNoShape(t, raw, p)
				continue
			}
			if impl.Shape(raw, p) == "NIL" {
				t.Errorf("Shape(%.200q) of depth %d is NIL", raw, deep)
			}
			checkShapes(t, raw, p)
		}
	}
	// A kid of a part that is too deep is none that is too deep.
	p := impl.ReadPart(nested(), 0, len(nested()), 5)
	checkNoShape(t, nested(), p)
	checkShapes(t, nested(), p.Kids[0])
}

// TestShapeOfPartsOfOtherDepths has a part whose kids were read with different depths.
func TestShapeOfPartsOfOtherDepths(t *testing.T) {
	raw := mixed + "--b\r\n" + mail + mail + "\r\none\r\n--b\r\n" + mail + mail + "\r\ntwo\r\n--b--"
	whole := impl.Tree(raw)
	for deep := range 4 {
		p := impl.Tree(raw)
		p.Kids[0] = impl.ReadPart(raw, p.Kids[0].Head, p.Kids[0].End, deep)
		if sameParts(p, whole) != (deep >= 2) {
			t.Fatalf("the part %v with a kid of depth %d", p, deep)
		}
		if deep < 2 {
			checkNoShape(t, raw, p)
		}
		p.Kids[1] = impl.ReadPart(raw, p.Kids[1].Head, p.Kids[1].End, deep)
		checkShapes(t, raw, p)
	}
}

// TestShapeOfChangedParts changes every value in a part and in the parts in it.
func TestShapeOfChangedParts(t *testing.T) {
	changes := []func(p *impl.Part){
		func(p *impl.Part) { p.Kind.Type = "" }, func(p *impl.Part) { p.Kind.Type += "S" }, func(p *impl.Part) { p.Kind.Type = strings.ToLower(p.Kind.Type) }, func(p *impl.Part) { p.Kind.Sub = "" }, func(p *impl.Part) { p.Kind.Sub += "S" }, func(p *impl.Part) { p.Kind.Sub = strings.ToLower(p.Kind.Sub) },
		func(p *impl.Part) { p.Kind = impl.Kind{} }, func(p *impl.Part) { p.Kind = impl.Kind{Type: "MULTIPART", Sub: "ELSE"} }, func(p *impl.Part) { p.Kind = impl.Kind{Type: "MESSAGE", Sub: "ELSE"} }, func(p *impl.Part) { p.Kind = impl.Kind{Type: "TEXT", Sub: "ELSE"} },
		func(p *impl.Part) { p.Kind.Params = append(p.Kind.Params, impl.Param{}) }, func(p *impl.Part) { p.Kind.Params = append(p.Kind.Params, impl.Param{Name: "X", Value: "y"}) },
		func(p *impl.Part) { p.Kids = append(p.Kids, impl.Part{}) }, func(p *impl.Part) { p.Kids = append(p.Kids, *p) },
		func(p *impl.Part) { *p = impl.Part{Head: p.Head, Body: p.Body, End: p.End} },
		func(p *impl.Part) { p.Body++ }, func(p *impl.Part) { p.Body-- }, func(p *impl.Part) { p.Body = -1 }, func(p *impl.Part) { p.Body = math.MinInt }, func(p *impl.Part) { p.Body = math.MaxInt }, func(p *impl.Part) { p.Body = p.End + 1 },
		func(p *impl.Part) { p.Head = -1 }, func(p *impl.Part) { p.Head = math.MinInt }, func(p *impl.Part) { p.Head = math.MaxInt }, func(p *impl.Part) { p.End = -1 }, func(p *impl.Part) { p.End = math.MinInt }, func(p *impl.Part) { p.End = math.MaxInt },
		func(p *impl.Part) { p.Head, p.End = p.End+1, p.Head }, func(p *impl.Part) { p.Head, p.Body = p.Body+1, p.Head }, func(p *impl.Part) { p.Body, p.End = p.End+1, p.Body },
	}
	fewer := []func(p *impl.Part){
		func(p *impl.Part) { p.Kids = p.Kids[1:] }, func(p *impl.Part) { p.Kids = p.Kids[:len(p.Kids)-1] }, func(p *impl.Part) { p.Kids = nil }, func(p *impl.Part) { p.Kids[0] = impl.Part{} }, func(p *impl.Part) { p.Kids[0] = *p },
	}
	params := []func(p *impl.Part){
		func(p *impl.Part) { p.Kind.Params = nil }, func(p *impl.Part) { p.Kind.Params[0].Name = "x" }, func(p *impl.Part) { p.Kind.Params[0].Value += "z" }, func(p *impl.Part) { p.Kind.Params[0] = impl.Param{} },
	}
	for _, raw := range changedTexts() {
		for i, part := range inAll(impl.Tree(raw)) {
			list := changes
			if len(part.Kids) > 0 {
				list = append(slices.Clip(list), fewer...)
			}
			if len(part.Kind.Params) > 0 {
				list = append(slices.Clip(list), params...)
			}
			for _, change := range list {
				own := copied(part)
				change(&own)
				checkNoShape(t, raw, own)
				// The same change within the whole.
				whole := copied(impl.Tree(raw))
				change(partNumber(&whole, i))
				checkNoShape(t, raw, whole)
			}
		}
	}
}

func changedTexts() []string {
	return []string{"\r\nhello", "hello", "", nested(), mixed + "--b\r\nContent-Type: a/b; x=y; x=z\r\n\r\none\r\n--b\r\n" + mail + "\r\ntwo\r\n--b\r\n\r\nthree\r\n--b--", "Content-Type: message/rfc822; x=y\r\n\r\n" + html + "one"}
}

// TestShapeOfMovedParts moves one end of a part: it may be a part of its new range, but within the whole it is not the same.
func TestShapeOfMovedParts(t *testing.T) {
	parts, others := 0, 0
	for _, raw := range changedTexts() {
		for i, part := range inAll(impl.Tree(raw)) {
			for _, by := range [][2]int{{1, 0}, {-1, 0}, {0, 1}, {0, -1}, {2, 0}, {0, 2}, {-3, 3}} {
				own := copied(part)
				own.Head += by[0]
				own.End += by[1]
				want := shapeOf(raw, own)
				if got := impl.Shape(raw, own); got != want {
					t.Fatalf("Shape(%q, %v) = %q, want %q", raw, own, got, want)
				}
				if want == "NIL" {
					others++
				} else {
					parts++
				}
				if i == 0 {
					continue
				}
				whole := copied(impl.Tree(raw))
				partNumber(&whole, i).Head += by[0]
				partNumber(&whole, i).End += by[1]
				checkNoShape(t, raw, whole)
			}
		}
	}
	if parts == 0 || others == 0 {
		t.Errorf("%d moved parts are parts, %d are not", parts, others)
	}
}

// partNumber returns the part in p that is at an index of inAll.
func partNumber(p *impl.Part, number int) *impl.Part {
	for number > 0 {
		number--
		at := 0
		for size := impl.Count(p.Kids[at]); number >= size; size = impl.Count(p.Kids[at]) {
			number -= size
			at++
		}
		p = &p.Kids[at]
	}
	return p
}

// TestShapeOfOtherTexts has the parts of one text with another text.
func TestShapeOfOtherTexts(t *testing.T) {
	texts := []string{"", "hello", "jello", "\r\nhello", html, html + "hello", html + "jello", mail, mail + html, mixed, mixed + "--b", mixed + "--b\r\n", mixed + "--b\r\n\r\none\r\n--b--", mixed + "--b\r\n\r\ntwo\r\n--b--", mixed + "--b\r\n\r\n\r\n\r\n\r\n--b--", other + "--c d", "Content-Type: text/plain\r\n\r\n", "content-type: Text/Html \r\n\r\nh", nested()}
	same := 0
	for _, raw := range texts {
		for _, text := range texts {
			for _, p := range inAll(impl.Tree(text)) {
				want := shapeOf(raw, p)
				if got := impl.Shape(raw, p); got != want {
					t.Fatalf("Shape(%q, %v) = %q, want %q", raw, p, got, want)
				}
				if raw != text && want != "NIL" {
					same++
				}
			}
		}
	}
	if same == 0 {
		t.Error("no two texts have a part that is the same")
	}
	for _, raw := range texts {
		checkNoShape(t, raw, impl.Part{})
		checkNoShape(t, raw, impl.Part{Head: -1})
		checkNoShape(t, raw, impl.Part{Head: -1, Body: -1, End: -1})
		checkNoShape(t, raw, impl.Part{End: len(raw)})
		checkNoShape(t, raw, impl.Part{Head: len(raw) + 1, Body: len(raw) + 1, End: len(raw) + 1})
		checkNoShape(t, raw, impl.Part{Kind: impl.Kind{Type: "TEXT", Sub: "PLAIN"}, Head: len(raw) + 1, Body: len(raw) + 1, End: len(raw) + 1})
		checkNoShape(t, raw, impl.Part{Kind: impl.Kind{Type: "TEXT", Sub: "PLAIN"}, Head: -1})
		checkNoShape(t, raw, impl.Part{Kind: impl.Kind{Type: "MULTIPART", Sub: "MIXED"}, Body: len(raw), End: len(raw)})
		checkNoShape(t, raw, impl.Part{Kind: impl.Kind{Type: "MULTIPART", Sub: "MIXED"}, Body: len(raw), End: len(raw), Kids: []impl.Part{{}}})
		checkNoShape(t, raw, impl.Part{Kind: impl.Kind{Type: "MESSAGE", Sub: "RFC822"}, Body: len(raw), End: len(raw)})
		checkNoShape(t, raw, impl.Part{Kind: impl.Kind{Type: "MESSAGE", Sub: "RFC822"}, Body: len(raw), End: len(raw), Kids: []impl.Part{{Kind: impl.Kind{Type: "MULTIPART"}}}})
		checkShapes(t, raw, impl.Part{Kind: impl.Kind{Type: "TEXT", Sub: "PLAIN"}, Head: len(raw), Body: len(raw), End: len(raw)})
	}
}

// TestShapeOfAnyRange takes parts of ranges that are no parts of a tree.
func TestShapeOfAnyRange(t *testing.T) {
	raw := "Subject: (\r\n" + mixed + "--b\r\n" + mail + "\r\none\r\n--b--\r\n"
	for from := range len(raw) + 1 {
		for to := from; to <= len(raw); to++ {
			p := impl.ReadPart(raw, from, to, 4)
			got, want := impl.Shape(raw, p), shapeText(raw, p)
			if got != want || !isShape(got, p) || got != impl.Shape(raw[from:to], impl.Tree(raw[from:to])) {
				t.Fatalf("Shape of %q from %d to %d is %q, want %q", raw, from, to, got, want)
			}
		}
	}
}

func TestShapeByRule(t *testing.T) {
	pieces := []string{"--b\r\n", "--c d\r\n", "\r\n", mixed, other, mail, "Subject: (\r\n", "x=\")\""}
	for _, code := range textsOf("\x00\x01\x02\x03\x04\x05\x06\x07", 4) {
		raw := ""
		for i := range len(code) {
			raw += pieces[code[i]]
		}
		for _, head := range []string{mixed + "--b\r\n", mail} {
			for _, p := range inAll(impl.Tree(head + raw)) {
				got := impl.Shape(head+raw, p)
				if want := shapeOf(head+raw, p); got != want || !isShape(got, p) {
					t.Fatalf("Shape(%q, %v) = %q, want %q", head+raw, p, got, want)
				}
			}
		}
	}
}

// TestShapesOfOverlappingDelimiters has marks with line ends, as TestPartsOfOverlappingDelimiters has.
func TestShapesOfOverlappingDelimiters(t *testing.T) {
	for _, mark := range []string{"x\r\n--x", "\r\n-", "x\r\n--x\r\n--x"} {
		head := "Content-Type: multipart/mixed; boundary=\"" + strings.ReplaceAll(mark, "\n", "\\\n") + "\"\r\n\r\n"
		for _, body := range append(textsOf("x-\r\n", 2), "--x\r\n--x", "--x\r\n--x\r\n--x\r\n\r\none\r\n--x\r\n--x\r\ntwo", strings.Repeat("--x\r\n", 9)) {
			raw := head + "--" + mark + "\r\n" + body
			checkShapes(t, raw, impl.Tree(raw))
		}
	}
}

func TestSlice(t *testing.T) {
	for _, x := range []struct {
		a, b int
		want string
	}{
		{0, 4, "abcd"}, {1, 3, "bc"}, {0, 0, ""}, {0, 1, "a"}, {3, 4, "d"}, {4, 4, ""}, {2, 2, ""}, {3, 1, ""}, {4, 3, ""}, {-1, 2, ""}, {-1, -1, ""}, {-2, -1, ""}, {0, -1, ""}, {0, 5, ""}, {4, 5, ""}, {5, 5, ""}, {5, 4, ""}, {5, 6, ""}, {-1, 5, ""},
		{math.MinInt, 2, ""}, {2, math.MaxInt, ""}, {math.MinInt, math.MaxInt, ""}, {math.MaxInt, math.MinInt, ""}, {math.MaxInt, math.MaxInt, ""}, {math.MinInt, math.MinInt, ""}, {2, math.MinInt, ""}, {math.MaxInt, 2, ""},
	} {
		if got := impl.Slice("abcd", x.a, x.b); got != x.want {
			t.Errorf("Slice(%d, %d) = %q, want %q", x.a, x.b, got, x.want)
		}
	}
	for _, raw := range []string{"", "a", "\x00\xff", "caf\u00e9\r\n", allBytes()[:20]} {
		for a := -2; a <= len(raw)+2; a++ {
			for b := -2; b <= len(raw)+2; b++ {
				want := ""
				for i := a; i < b && a >= 0 && b <= len(raw); i++ {
					want += raw[i : i+1]
				}
				if got := impl.Slice(raw, a, b); got != want {
					t.Errorf("Slice(%q, %d, %d) = %q, want %q", raw, a, b, got, want)
				}
			}
		}
	}
}

// TestShapeLeavesArguments calls every function of the chapter and checks that arguments stay as they were, and that what lies behind them is not read.
func TestShapeLeavesArguments(t *testing.T) {
	for _, raw := range []string{
		"hello", "Content-Type: a/b; x=y; z=\"1\"\r\n\r\nhello", nested(), mixed + "--b\r\n" + other + "--c d\r\n" + html + "one\r\n--c d\r\n" + mail + "\r\ntwo\r\n--c d--\r\n--b\r\nContent-Type: a/b; x=y; z=1\r\n\r\nthree\r\n--b--", strings.Repeat(mail, 9),
	} {
		kept := bytes.Clone([]byte(raw))
		p := impl.Tree(raw)
		full := copied(p)
		for range 2 {
			if got, want := impl.Shape(raw, full), shapeText(raw, p); got != want {
				t.Errorf("Shape(%q) = %q, want %q", raw, got, want)
			}
			if got, want := impl.ParamText(full.Kind.Params), paramsText(p.Kind.Params); got != want {
				t.Errorf("ParamText(%q) = %q, want %q", full.Kind.Params, got, want)
			}
			if impl.Envelope(raw) != envelopeText(raw) || impl.Slice(raw, 0, len(raw)) != raw {
				t.Errorf("Envelope or Slice of %q", raw)
			}
		}
		if !isCopied(full, p) || raw != string(kept) {
			t.Fatal("an argument was modified")
		}
	}
	// A list that is nil is the same as an empty one.
	plain := impl.Kind{Type: "TEXT", Sub: "PLAIN"}
	for _, params := range [][]impl.Param{nil, {}} {
		for _, kids := range [][]impl.Part{nil, {}} {
			plain.Params = params
			if got := impl.Shape("\r\nx", impl.Part{Kind: plain, Body: 2, End: 3, Kids: kids}); got != `("TEXT" "PLAIN" NIL NIL NIL "7BIT" 1 1)` {
				t.Errorf("the shape with %#v and %#v is %q", params, kids, got)
			}
		}
	}
}

// TestShapeReturnsForLongArguments has long and deep ones, and parts that contain themselves.
func TestShapeReturnsForLongArguments(t *testing.T) {
	for _, s := range []string{allBytes(), xs(200000), strings.Repeat("\r\n", 100000), strings.Repeat("Subject: x\r\n", 20000), "To: " + strings.Repeat("a@b,", 2000), "Subject:" + strings.Repeat("\r\n x", 5000), "From: " + strings.Repeat("\"", 2000), strings.Repeat("(", 200000)} {
		if impl.Envelope(s) != envelopeText(s) {
			t.Errorf("the envelope of %.20q", s)
		}
		list := []impl.Param{{Name: s, Value: s}, {Name: "X", Value: "y"}}
		if impl.ParamText(list) != paramsText(list) {
			t.Errorf("the parameters %.20q", s)
		}
		for _, raw := range []string{s, html + s, mail + s, mixed + "--b\r\n" + s} {
			p := impl.Tree(raw)
			if impl.Shape(raw, p) != shapeText(raw, p) {
				t.Errorf("the shape of %.20q", raw)
			}
		}
	}
	if got := impl.Envelope("To: " + strings.Repeat("a@b,", 50000)); got != "("+strings.Join(tenNils(5, "("+strings.Repeat(`(NIL NIL "a" "b")`, 50000)+")"), " ")+")" {
		t.Error("the envelope of many addresses")
	}
	if got := impl.Envelope("From: " + strings.Repeat("\"", 200000) + "\r\nSubject:" + strings.Repeat("\r\n x", 50000)); got != nilEnvelope {
		t.Error("the envelope of long bodies")
	}
	if got := impl.ParamText(make([]impl.Param, 50000)); got != "("+strings.Repeat(`"" "" `, 49999)+`"" "")` {
		t.Error("the text of many parameters")
	}
	raw := mixed + strings.Repeat("--b\r\n", 20000)
	if got := impl.Shape(raw, impl.Tree(raw)); got != "("+strings.Repeat(`("TEXT" "PLAIN" NIL NIL NIL "7BIT" 0 0)`, 20000)+` "MIXED")` {
		t.Error("the shape of many parts")
	}
	raw = strings.Repeat(mail, 20000)
	deep := impl.ReadPart(raw, 0, len(raw), math.MaxInt)
	checkDeep := func(p impl.Part) {
		if got := impl.Shape(raw, p); got != "NIL" {
			t.Errorf("the shape of parts within each other is %.200q", got)
		}
	}
	checkDeep(deep)
	for _, p := range []impl.Part{impl.Tree(raw), impl.Tree(raw).Kids[0], {}, {Kind: impl.Kind{Type: "MULTIPART"}}} {
		endless := impl.Part{Kind: p.Kind, Head: p.Head, Body: p.Body, End: p.End, Kids: make([]impl.Part, 1)}
		endless.Kids[0] = endless
		checkDeep(endless)
		endless = impl.Tree(raw)
		endless.Kids[0].Kids[0].Kids[0] = endless
		checkDeep(endless)
	}
}
