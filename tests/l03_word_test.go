package tests

import (
	"bytes"
	"math"
	"strconv"
	"strings"
	"testing"

	"loop.example/g00785/impl"
)

// atomByte is the document's rule for the bytes of an atom.
func atomByte(c byte) bool {
	switch c {
	case '(', ')', '{', '%', '*', ']', '"', '\\':
		return false
	}
	return c >= 33 && c <= 126
}

// everyByte reports whether s consists of bytes that fit.
func everyByte(s string, fits func(byte) bool) bool {
	for i := range len(s) {
		if !fits(s[i]) {
			return false
		}
	}
	return true
}

func isAtom(s string) bool { return s != "" && everyByte(s, atomByte) }

func printable(c byte) bool { return c >= 32 && c <= 126 }

// quoteText is Quote as the document words it.
func quoteText(s string) string {
	s = strings.ReplaceAll(s, `\`, `\\`)
	return `"` + strings.ReplaceAll(s, `"`, `\"`) + `"`
}

func literalText(s string, plus string) string {
	return "{" + strconv.Itoa(len(s)) + plus + "}\r\n" + s
}

// stringText is PutString as the document words it.
func stringText(s string) string {
	switch {
	case strings.Contains(s, "\x00") || len(s) > 400:
		return ""
	case len(s) <= 60 && everyByte(s, printable):
		return quoteText(s)
	}
	return literalText(s, "")
}

// wordText is PutWord as the document words it.
func wordText(s string) string {
	if isAtom(s) && !strings.EqualFold(s, "NIL") {
		return s
	}
	return stringText(s)
}

func TestAtomOk(t *testing.T) {
	for c := range 256 {
		s := string([]byte{byte(c)})
		for _, x := range []string{s, s + "a", "a" + s, "a" + s + "b", s + s, strings.Repeat("a", 500) + s} {
			if got := impl.AtomOk(x); got != atomByte(byte(c)) {
				t.Errorf("AtomOk(%q) = %v", x, got)
			}
		}
	}
	for _, s := range []string{"!", "~", "}", "[", "+", "&", "'", ",", "NIL", "nil", "A1", "x.y+z", "$MDNSent", "a@b.c", "<>;:=?|^`#/-_", strings.Repeat("a", 5000)} {
		if !impl.AtomOk(s) {
			t.Errorf("AtomOk(%q) = false", s)
		}
	}
	for _, s := range []string{"", " ", "\x00", "\x1f", "\x7f", "\x80", "\xff", "\t", "\r\n", "caf\u00e9", "\\Seen", "a b", " a", "a ", "(a)", "{1}", "a]"} {
		if impl.AtomOk(s) {
			t.Errorf("AtomOk(%q) = true", s)
		}
	}
}

func TestQuote(t *testing.T) {
	for _, x := range [][2]string{
		{"", `""`}, {"a", `"a"`}, {`"`, `"\""`}, {`\`, `"\\"`}, {`\"`, `"\\\""`}, {`a"b\`, `"a\"b\\"`}, {`""`, `"\"\""`},
		{`\\`, `"\\\\"`}, {"a\r\n\x00\xff", "\"a\r\n\x00\xff\""}, {"caf\u00e9", "\"caf\u00e9\""}, {"'/{}", `"'/{}"`},
		{strings.Repeat(`"`, 500), `"` + strings.Repeat(`\"`, 500) + `"`},
	} {
		if got := impl.Quote(x[0]); got != x[1] {
			t.Errorf("Quote(%q) = %q, want %q", x[0], got, x[1])
		}
	}
	for _, s := range append(textsOf(allBytes(), 2), textsOf("\"\\a", 6)...) {
		if got, want := impl.Quote(s), quoteText(s); got != want {
			t.Fatalf("Quote(%q) = %q, want %q", s, got, want)
		}
	}
}

// sizedTexts returns texts of all lengths around the limits, plain ones and ones that are full of another sign.
func sizedTexts() []string {
	list := []string{}
	for _, n := range []int{0, 1, 2, 29, 30, 31, 58, 59, 60, 61, 62, 119, 120, 121, 199, 200, 201, 398, 399, 400, 401, 402, 800, 5000} {
		for _, sign := range []string{"a", " ", "~", `"`, `\`, "]", "\r", "\x1f", "\x7f", "\x80", "\xff", "\x00"} {
			full := strings.Repeat(sign, n)
			list = append(list, full, strings.Repeat("a", n)+sign, sign+strings.Repeat("a", n))
			if n > 0 {
				list = append(list, full[1:]+"a", full[1:]+" ", full[:n/2]+"\r\n"+full[n/2:])
			}
		}
	}
	return list
}

func TestPutString(t *testing.T) {
	for _, x := range [][2]string{
		{"", `""`}, {"a", `"a"`}, {"NIL", `"NIL"`}, {"a b", `"a b"`}, {`a"\`, `"a\"\\"`}, {" ~", `" ~"`},
		{"\x1f", "{1}\r\n\x1f"}, {"\x7f", "{1}\r\n\x7f"}, {"\t", "{1}\r\n\t"}, {"\xe9", "{1}\r\n\xe9"}, {"\xff", "{1}\r\n\xff"},
		{"a\r\n", "{3}\r\na\r\n"}, {"caf\u00e9", "{5}\r\ncaf\u00e9"}, {"\"\\\r", "{3}\r\n\"\\\r"}, {"\x01", "{1}\r\n\x01"},
		{strings.Repeat("a", 60), `"` + strings.Repeat("a", 60) + `"`}, {strings.Repeat("a", 61), "{61}\r\n" + strings.Repeat("a", 61)},
		{strings.Repeat(`"`, 60), `"` + strings.Repeat(`\"`, 60) + `"`}, {strings.Repeat(`\`, 61), "{61}\r\n" + strings.Repeat(`\`, 61)},
		{strings.Repeat("\xff", 400), "{400}\r\n" + strings.Repeat("\xff", 400)}, {strings.Repeat("a", 400), "{400}\r\n" + strings.Repeat("a", 400)},
		{strings.Repeat("a", 401), ""}, {strings.Repeat("\xff", 401), ""}, {"\x00", ""}, {"a\x00", ""}, {"\x00a", ""}, {"a\x00b", ""},
		{strings.Repeat("a", 399) + "\x00", ""}, {"\x00" + strings.Repeat("a", 399), ""}, {strings.Repeat("a", 60) + "\x00", ""},
	} {
		if got := impl.PutString(x[0]); got != x[1] {
			t.Errorf("PutString(%q) = %q, want %q", x[0], got, x[1])
		}
	}
	for _, s := range append(textsOf(allBytes(), 2), sizedTexts()...) {
		if got, want := impl.PutString(s), stringText(s); got != want {
			t.Fatalf("PutString(%q) = %q, want %q", s, got, want)
		}
	}
}

func TestPutWord(t *testing.T) {
	for _, x := range [][2]string{
		{"", `""`}, {"a", "a"}, {"x.y+z", "x.y+z"}, {"}", "}"}, {"a b", `"a b"`}, {"(a", `"(a"`}, {"a]", `"a]"`}, {"%", `"%"`}, {"*", `"*"`},
		{"NI", "NI"}, {"NILL", "NILL"}, {"ANIL", "ANIL"}, {"N1L", "N1L"}, {"NIL ", `"NIL "`}, {"NIL\r\n", "{5}\r\nNIL\r\n"}, {"NIL\x00", ""},
		{strings.Repeat("a", 60), strings.Repeat("a", 60)}, {strings.Repeat("a", 61), strings.Repeat("a", 61)},
		{strings.Repeat("a", 400), strings.Repeat("a", 400)}, {strings.Repeat("a", 401), strings.Repeat("a", 401)},
		{strings.Repeat("a", 5000), strings.Repeat("a", 5000)}, {strings.Repeat("a", 400) + " ", ""}, {"a\x00", ""},
		{strings.Repeat("a", 60) + " ", "{61}\r\n" + strings.Repeat("a", 60) + " "},
	} {
		if got := impl.PutWord(x[0]); got != x[1] {
			t.Errorf("PutWord(%q) = %q, want %q", x[0], got, x[1])
		}
	}
	for _, s := range []string{"NIL", "NIl", "NiL", "Nil", "nIL", "nIl", "niL", "nil"} {
		if got := impl.PutWord(s); got != `"`+s+`"` {
			t.Errorf("PutWord(%q) = %q", s, got)
		}
	}
	for _, s := range append(textsOf(allBytes(), 2), sizedTexts()...) {
		if got, want := impl.PutWord(s), wordText(s); got != want {
			t.Fatalf("PutWord(%q) = %q, want %q", s, got, want)
		}
	}
}

func TestNString(t *testing.T) {
	for _, s := range append(sizedTexts(), "x", "NIL", "nil", "a b", "a\r\n", "\x00") {
		if got := impl.NString(s, false); got != "NIL" {
			t.Errorf("NString(%q, false) = %q", s, got)
		}
		if got, want := impl.NString(s, true), stringText(s); got != want {
			t.Errorf("NString(%q, true) = %q, want %q", s, got, want)
		}
	}
	for _, x := range [][2]string{{"x", `"x"`}, {"NIL", `"NIL"`}, {"", `""`}, {"\x00", ""}, {strings.Repeat("a", 401), ""}} {
		if got := impl.NString(x[0], true); got != x[1] {
			t.Errorf("NString(%q, true) = %q, want %q", x[0], got, x[1])
		}
	}
}

func checkWord(t *testing.T, s string, at int, value string, next int) {
	t.Helper()
	if got, to := impl.GetWord(s, at); got != value || to != next {
		t.Fatalf("GetWord(%q, %d) = %q, %d, want %q, %d", s, at, got, to, value, next)
	}
}

func checkNoWord(t *testing.T, s string) {
	t.Helper()
	checkWord(t, s, 0, "", -1)
	checkWord(t, "ab "+s, 3, "", -1)
}

// checkForm checks that a text that is one word is read as that value wherever it occurs; bytes that an atom may contain follow only other forms.
func checkForm(t *testing.T, form string, value string) {
	t.Helper()
	after := []string{"", " ", " a", ")", "(", "{1}\r\na", "\"", "\\", "]", "%", "*", "\r\n", "\x00", "\x7f", "\x80", "\xff"}
	if !isAtom(form) {
		after = append(after, "a", "+", "}", "0", "NIL", "\"\"a\"")
	}
	for _, x := range after {
		for _, before := range []string{"", "a", " ", "a1 ", "\"", "\\", "{", "{3}\r\n", "\r\n", "\x00\xff", "(\"a\" "} {
			checkWord(t, before+form+x, len(before), value, len(before)+len(form))
		}
	}
}

// checkRecovered checks that s is recovered from what PutString and PutWord write for it.
func checkRecovered(t *testing.T, s string) {
	t.Helper()
	for _, form := range []string{impl.PutString(s), impl.PutWord(s)} {
		if form != "" {
			checkForm(t, form, s)
		}
	}
	if !strings.Contains(s, "\x00") && len(s) <= 400 {
		checkForm(t, literalText(s, ""), s)
		checkForm(t, literalText(s, "+"), s)
		if everyByte(s, printable) {
			checkForm(t, quoteText(s), s)
		}
	}
}

func TestGetWordRecoversStrings(t *testing.T) {
	for _, s := range append(textsOf(" a\"\\{}+\r\n\xff", 3), textsOf(allBytes(), 1)...) {
		checkRecovered(t, s)
	}
	for _, s := range append(sizedTexts(), "NIL", "nil", "NiL", "NILs", "{1}\r\na", "{1+}\r\na", allBytes()[1:], "caf\u00e9") {
		checkRecovered(t, s)
	}
}

func TestGetWordRecoversEveryPair(t *testing.T) {
	for a := range 256 {
		for b := range 256 {
			s := string([]byte{byte(a), byte(b)})
			if form := impl.PutWord(s); form != "" {
				checkWord(t, form, 0, s, len(form))
				checkWord(t, "x "+form+" y", 2, s, 2+len(form))
			}
		}
	}
}

func TestGetWordOfAtoms(t *testing.T) {
	for c := range 256 {
		sign := string([]byte{byte(c)})
		if atomByte(byte(c)) {
			checkWord(t, "a"+sign+"b", 0, "a"+sign+"b", 3)
			checkWord(t, sign, 0, sign, 1)
		} else {
			checkWord(t, "a"+sign+"b", 0, "a", 1)
			checkWord(t, sign, 0, "", -1)
		}
	}
	for _, x := range []struct {
		s     string
		at    int
		value string
		next  int
	}{
		{"abc def", 0, "abc", 3}, {"abc def", 1, "bc", 3}, {"abc def", 3, "", -1}, {"abc def", 4, "def", 7}, {"abc def", 6, "f", 7},
		{"NIL", 0, "NIL", 3}, {"nil)", 0, "nil", 3}, {"1}\r\na", 0, "1}", 2}, {"+}", 0, "+}", 2}, {"a\\b", 1, "", -1}, {"a{1}", 0, "a", 1},
		{"a\"b\"", 0, "a", 1}, {strings.Repeat("a", 5000) + " ", 0, strings.Repeat("a", 5000), 5000},
	} {
		checkWord(t, x.s, x.at, x.value, x.next)
	}
}

func TestGetWordIndex(t *testing.T) {
	for _, s := range []string{"", "a", "abc", "\"a\"", "{1}\r\na", "{0}\r\n", "(", strings.Repeat("a", 400)} {
		for _, at := range []int{-1, -2, -400, math.MinInt, math.MinInt + 1, len(s), len(s) + 1, len(s) + 2, 1000, 1 << 32, math.MaxInt - 1, math.MaxInt} {
			checkWord(t, s, at, "", -1)
		}
	}
}

func TestGetWordOfQuoted(t *testing.T) {
	for _, s := range []string{
		`"`, `"a`, `"a b`, `"\"`, `"a\"`, `"\`, `"\\`, `"\\\"`, `"a\b"`, `"\a"`, `"\n"`, `"\ "`, `"\'"`, `"\/"`, `"\0"`, "\"\\\x00\"", "\"\\\r\n\"",
		"\"a\r\nb\"", "\"\r\"", "\"\n\"", "\"\t\"", "\"\x00\"", "\"\x1f\"", "\"\x7f\"", "\"\x80\"", "\"\xe9\"", "\"caf\u00e9\"", "\"\xff\"", "\"a\\\xff\"",
	} {
		checkNoWord(t, s)
	}
	for c := range 256 {
		sign := string([]byte{byte(c)})
		switch {
		case c == '"':
			checkWord(t, `"a`+sign+`b"`, 0, "a", 3)
		case c == '\\' || !printable(byte(c)):
			checkNoWord(t, `"a`+sign+`b"`)
		default:
			checkWord(t, `"a`+sign+`b"`, 0, "a"+sign+"b", 5)
		}
		if c == '"' || c == '\\' {
			checkWord(t, `"a\`+sign+`b"`, 0, "a"+sign+"b", 6)
		} else {
			checkNoWord(t, `"a\`+sign+`b"`)
		}
	}
	for _, sign := range []string{"a", " ", `"`, `\`} {
		for _, n := range []int{60, 61, 399, 400} {
			checkForm(t, quoteText(strings.Repeat(sign, n)), strings.Repeat(sign, n))
			checkNoWord(t, strings.TrimSuffix(quoteText(strings.Repeat(sign, n)), `"`))
		}
		for _, n := range []int{401, 402, 800, 5000} {
			checkNoWord(t, quoteText(strings.Repeat(sign, n)))
		}
	}
}

func TestGetWordOfLiterals(t *testing.T) {
	for _, s := range []string{"", "a", "\r\n", `"`, `\`, "\xff", "\x01", "a b", "{1}\r\na", "NIL", strings.Repeat("a", 9), strings.Repeat("\r\n", 50), strings.Repeat("b", 399), strings.Repeat("c", 400)} {
		for _, plus := range []string{"", "+"} {
			form := literalText(s, plus)
			checkForm(t, form, s)
			for length := 1; length < len(form); length++ {
				checkNoWord(t, form[:length])
			}
			for _, zeros := range []string{"0", "00", "0000000000"} {
				checkNoWord(t, "{"+zeros+form[1:])
			}
		}
	}
	for _, number := range []string{
		"", "+", "++", "-", "-0", "-1", "+1", "+1+", "1++", "1+1", "1-", "1 ", " 1", "1+ ", "1 +", "a", "1a", "a1", "0x1", "1.0", "1,", "00", "01", "001", "00+", "01+",
		"401", "401+", "402", "999", "1000", "999999999", "1000000000", "9223372036854775807", "9223372036854775808", "18446744073709551617", "4294967297", "4294967297+",
		"1\x00", "\x001", "1\r\n", "\xb2", "\u0661", strings.Repeat("9", 5000), strings.Repeat("0", 5000), strings.Repeat("0", 5000) + "1",
	} {
		checkNoWord(t, "{"+number+"}\r\n"+strings.Repeat("a", 1200))
	}
	for _, end := range []string{"", "}", "}\r", "}\n", "}\n\r", "}\r\r\n", "}\n\n", "}\r ", "} \r\n", "}a\r\n", "\r\n", ")\r\n", "]\r\n", "}}\r\n", "}\x00\r\n", "}\r\x00\n"} {
		checkNoWord(t, "{1"+end+"abc")
		checkNoWord(t, "{1+"+end+"abc")
		checkNoWord(t, "{0"+end)
	}
}

func TestGetWordOfZeroInLiterals(t *testing.T) {
	for _, n := range []int{1, 2, 3, 60, 61, 400} {
		for at := range n {
			s := []byte(strings.Repeat("a", n))
			s[at] = 0
			checkNoWord(t, literalText(string(s), ""))
			checkNoWord(t, literalText(string(s), "+"))
			checkNoWord(t, literalText(string(s), "")+"aaa")
		}
		s := strings.Repeat("a", n)
		checkWord(t, literalText(s, "")+"\x00", 0, s, len(literalText(s, "")))
		checkWord(t, literalText(s, "+")+"\x00", 0, s, len(literalText(s, "+")))
	}
	for c := 1; c < 256; c++ {
		s := "a" + string([]byte{byte(c)}) + "b"
		checkWord(t, "{3}\r\n"+s, 0, s, 8)
		checkWord(t, "{3+}\r\n"+s, 0, s, 9)
	}
}

// wordAt is GetWord as the document words it: it tries every end and every value up to there.
func wordAt(s string, at int) (string, int) {
	for to := len(s); at >= 0 && to > at; to-- {
		form := s[at:to]
		if isAtom(form) {
			return form, to
		}
		for from := range len(form) + 1 {
			value := form[from:]
			if len(value) <= 400 && !strings.Contains(value, "\x00") && (form == literalText(value, "") || form == literalText(value, "+")) {
				return value, to
			}
		}
		if value, ok := quotedValue(form); ok && len(value) <= 400 {
			return value, to
		}
	}
	return "", -1
}

// quotedValue returns the printable value whose Quote is the form: that of which both escapes are replaced in the inverse order.
func quotedValue(form string) (string, bool) {
	if len(form) < 2 {
		return "", false
	}
	value := strings.ReplaceAll(form[1:len(form)-1], `\\`, "\x00")
	value = strings.ReplaceAll(strings.ReplaceAll(value, `\"`, `"`), "\x00", `\`)
	return value, everyByte(value, printable) && quoteText(value) == form
}

func TestGetWordByRule(t *testing.T) {
	list := textsOf("\"\\a {\x00\xff", 5)
	for _, s := range textsOf("}+01\r\na\x00", 5) {
		list = append(list, "{"+s, "{1"+s)
	}
	for _, s := range textsOf("\"\\a", 7) {
		list = append(list, "\""+s)
	}
	for _, s := range list {
		for at := -1; at <= len(s)+1; at++ {
			value, next := wordAt(s, at)
			checkWord(t, s, at, value, next)
		}
	}
}

// TestGetWordOfChangedForms changes, inserts and removes every byte of words and reads them by the rule.
func TestGetWordOfChangedForms(t *testing.T) {
	for _, form := range []string{"abc", `"a\"b\\c"`, "{3}\r\na b", "{3+}\r\na\r\n", "{12}\r\nabcdefghijkl", "{0}\r\n", "{0+}\r\n"} {
		check := func(s string) {
			value, next := wordAt(s, 0)
			checkWord(t, s, 0, value, next)
		}
		for i := range len(form) {
			for c := range 256 {
				sign := string([]byte{byte(c)})
				check(form[:i] + sign + form[i+1:])
				check(form[:i] + sign + form[i:])
			}
			check(form[:i] + form[i+1:])
		}
	}
}

// TestGetWordReadsListsOfWords reads words one after the other, each from where the one before it ended.
func TestGetWordReadsListsOfWords(t *testing.T) {
	words := []string{"a", "", "NIL", "a b", `"`, "x\r\n", strings.Repeat("a", 61), strings.Repeat("b ", 200), "\xff", "+"}
	for _, first := range words {
		for _, second := range words {
			s := "A1 LOGIN " + impl.PutWord(first) + " " + impl.PutWord(second) + "\r\n"
			value, next := impl.GetWord(s, 9)
			if value != first || next < 0 || s[next] != ' ' {
				t.Fatalf("GetWord(%q, 9) = %q, %d", s, value, next)
			}
			checkWord(t, s, next+1, second, len(s)-2)
		}
	}
}

// TestWordLeavesArguments calls every function of the chapter on odd and long texts and checks that they stay as they were.
func TestWordLeavesArguments(t *testing.T) {
	for _, s := range []string{
		"", allBytes(), strings.Repeat("a", 200000), strings.Repeat(`"`, 200000), strings.Repeat(`\`, 200000), `"` + strings.Repeat(`\"`, 100000),
		strings.Repeat("{", 200000), "{" + strings.Repeat("1", 200000), "{" + strings.Repeat("+", 200000), strings.Repeat("{400}\r\n", 30000), strings.Repeat("\x00", 200000),
	} {
		kept := bytes.Clone([]byte(s))
		impl.AtomOk(s)
		impl.Quote(s)
		impl.PutString(s)
		impl.PutWord(s)
		impl.NString(s, true)
		impl.NString(s, false)
		for _, at := range []int{math.MinInt, -1, 0, 1, 2, len(s) / 2, len(s) - 1, len(s), len(s) + 1, math.MaxInt} {
			value, next := impl.GetWord(s, at)
			again, to := impl.GetWord(s, at)
			if value != again || next != to || next < 0 && (value != "" || next != -1) || next > len(s) {
				t.Errorf("GetWord at %d of %d bytes = %q, %d, then %q, %d", at, len(s), value, next, again, to)
			}
		}
		if s != string(kept) {
			t.Fatal("an argument was modified")
		}
	}
}
