package tests

import (
	"bytes"
	"math"
	"regexp"
	"slices"
	"strconv"
	"strings"
	"testing"

	"loop.example/g00785/impl"
)

var announcement = regexp.MustCompile(`\{(0|[1-9][0-9]{0,8})(\+?)\}$`)

// frameByte is the rules for one byte as the document words them.
func frameByte(f impl.Framer, c byte) (impl.Framer, []impl.Event) {
	alone := string([]byte{c})
	switch {
	case f.Skip > 0:
		f.Skip--
		return f, nil
	case f.Need > 0:
		f.Line += alone
		f.Need--
		if f.Need == 0 {
			f.From = len(f.Line)
		}
		return f, nil
	case f.Drop && f.Line == "\r" && c == '\n':
		f.Line, f.Drop = "", false
		return f, nil
	case f.Drop:
		f.Line = alone
		return f, nil
	}
	f.Line += alone
	size := len(f.Line)
	soFar, ends := strings.CutSuffix(f.Line, "\r\n")
	if !ends || f.From > size-2 {
		if size <= 1000 {
			return f, nil
		}
		f.Drop, f.Line, f.From = true, alone, 0
		return f, []impl.Event{{Kind: 2}}
	}
	found := announcement.FindStringSubmatch(soFar)
	if found == nil {
		return impl.Framer{}, []impl.Event{{Kind: 0, Text: soFar}}
	}
	number, _ := strconv.Atoi(found[1])
	fits := number <= 400 && size+number <= 1000
	switch {
	case fits && found[2] == "":
		f.Need, f.From = number, size
		return f, []impl.Event{{Kind: 1}}
	case fits:
		f.Need, f.From = number, size
		return f, nil
	case found[2] == "":
		return impl.Framer{}, []impl.Event{{Kind: 3}}
	}
	return impl.Framer{Skip: number}, []impl.Event{{Kind: 3}}
}

func frameText(f impl.Framer, s string) (impl.Framer, []impl.Event) {
	var list []impl.Event
	for i := range len(s) {
		next, events := frameByte(f, s[i])
		f, list = next, append(list, events...)
	}
	return f, list
}

// feedAll feeds the chunks one after the other.
func feedAll(f impl.Framer, chunks ...string) (impl.Framer, []impl.Event) {
	var list []impl.Event
	for _, chunk := range chunks {
		next, events := impl.Feed(f, chunk)
		f, list = next, append(list, events...)
	}
	return f, list
}

func checkFeed(t *testing.T, f impl.Framer, chunks []string, want impl.Framer, events []impl.Event) {
	t.Helper()
	got, list := feedAll(f, chunks...)
	if got != want || !slices.Equal(list, events) {
		t.Fatalf("Feed of %+v and %q = %+v, %+v, want %+v, %+v", f, chunks, got, list, want, events)
	}
}

// checkDivided feeds s as a whole, byte by byte and divided at every index, with empty chunks among them.
func checkDivided(t *testing.T, f impl.Framer, s string) {
	t.Helper()
	want, events := frameText(f, s)
	checkFeed(t, f, []string{s}, want, events)
	checkFeed(t, f, strings.Split(s, ""), want, events)
	for i := range len(s) + 1 {
		checkFeed(t, f, []string{s[:i], s[i:]}, want, events)
	}
	checkFeed(t, f, []string{"", s, "", ""}, want, events)
}

func evLine(text string) impl.Event { return impl.Event{Kind: impl.EvLine, Text: text} }

var (
	evMore = impl.Event{Kind: impl.EvMore}
	evLong = impl.Event{Kind: impl.EvLong}
	evBig  = impl.Event{Kind: impl.EvBig}
)

func xs(n int) string { return strings.Repeat("x", n) }

type feedRow struct {
	chunk  string
	after  impl.Framer
	events []impl.Event
}

func checkRows(t *testing.T, rows []feedRow) {
	t.Helper()
	for _, r := range rows {
		checkFeed(t, impl.Framer{}, []string{r.chunk}, r.after, r.events)
		checkDivided(t, impl.Framer{}, r.chunk)
	}
}

func TestFrameConstants(t *testing.T) {
	got := []int{impl.MaxLine, impl.EvLine, impl.EvMore, impl.EvLong, impl.EvBig, impl.MaxLit}
	if !slices.Equal(got, []int{1000, 0, 1, 2, 3, 400}) {
		t.Error(got)
	}
}

func TestFeedLines(t *testing.T) {
	zero := impl.Framer{}
	checkRows(t, []feedRow{
		{"", zero, nil},
		{"a", impl.Framer{Line: "a"}, nil},
		{"a\r", impl.Framer{Line: "a\r"}, nil},
		{"\r", impl.Framer{Line: "\r"}, nil},
		{"\n", impl.Framer{Line: "\n"}, nil},
		{"\r\n", zero, []impl.Event{evLine("")}},
		{"\r\n\r\n", zero, []impl.Event{evLine(""), evLine("")}},
		{"a NOOP\r\n", zero, []impl.Event{evLine("a NOOP")}},
		{"a\r\nb\r\nc", impl.Framer{Line: "c"}, []impl.Event{evLine("a"), evLine("b")}},
		{"a\nb\n", impl.Framer{Line: "a\nb\n"}, nil},
		{"a\rb\r", impl.Framer{Line: "a\rb\r"}, nil},
		{"\n\r", impl.Framer{Line: "\n\r"}, nil},
		{"\n\r\n", zero, []impl.Event{evLine("\n")}},
		{"\r\r\n", zero, []impl.Event{evLine("\r")}},
		{"a\rb\nc\r\n", zero, []impl.Event{evLine("a\rb\nc")}},
		{"\r\n\n", impl.Framer{Line: "\n"}, []impl.Event{evLine("")}},
		{"\x00\xff\x80\r\n", zero, []impl.Event{evLine("\x00\xff\x80")}},
		{"caf\u00e9\r\n", zero, []impl.Event{evLine("caf\u00e9")}},
	})
}

func TestFeedLiterals(t *testing.T) {
	zero := impl.Framer{}
	checkRows(t, []feedRow{
		{"a {3}\r", impl.Framer{Line: "a {3}\r"}, nil},
		{"a {3}\r\n", impl.Framer{Line: "a {3}\r\n", From: 7, Need: 3}, []impl.Event{evMore}},
		{"a {3+}\r\n", impl.Framer{Line: "a {3+}\r\n", From: 8, Need: 3}, nil},
		{"a {3}\r\nxy", impl.Framer{Line: "a {3}\r\nxy", From: 7, Need: 1}, []impl.Event{evMore}},
		{"a {3}\r\nxyz", impl.Framer{Line: "a {3}\r\nxyz", From: 10}, []impl.Event{evMore}},
		{"a {3}\r\nxyz\r", impl.Framer{Line: "a {3}\r\nxyz\r", From: 10}, []impl.Event{evMore}},
		{"a {3}\r\nxyz\r\n", zero, []impl.Event{evMore, evLine("a {3}\r\nxyz")}},
		{"a {3+}\r\nxyz\r\n", zero, []impl.Event{evLine("a {3+}\r\nxyz")}},
		{"a {0}\r\n", impl.Framer{Line: "a {0}\r\n", From: 7}, []impl.Event{evMore}},
		{"a {0}\r\n\r\n", zero, []impl.Event{evMore, evLine("a {0}\r\n")}},
		{"a {0+}\r\n\r\n", zero, []impl.Event{evLine("a {0+}\r\n")}},
		{"a {0}\r\n b\r\n", zero, []impl.Event{evMore, evLine("a {0}\r\n b")}},
		{"{1}\r\nx\r\n", zero, []impl.Event{evMore, evLine("{1}\r\nx")}},
		// A line end in the contents, or half of one at their edge, ends nothing.
		{"a {2}\r\n\r\n", impl.Framer{Line: "a {2}\r\n\r\n", From: 9}, []impl.Event{evMore}},
		{"a {2}\r\n\r\n\r\n", zero, []impl.Event{evMore, evLine("a {2}\r\n\r\n")}},
		{"a {1}\r\n\r\n\r\n", zero, []impl.Event{evMore, evLine("a {1}\r\n\r\n")}},
		{"a {1}\r\n\r\n", impl.Framer{Line: "a {1}\r\n\r\n", From: 8}, []impl.Event{evMore}},
		{"a {1}\r\n\n\r\n", zero, []impl.Event{evMore, evLine("a {1}\r\n\n")}},
		{"a {6}\r\nb\r\nc\r\n\r\n", zero, []impl.Event{evMore, evLine("a {6}\r\nb\r\nc\r\n")}},
	})
}

func TestFeedAnnouncements(t *testing.T) {
	for _, s := range []string{
		"{", "}", "{}", "{+}", "{1", "{1+", "1}", "1+}", "(1)", "{x}", "{01}", "{00}", "{00+}", "{001+}", "{-1}", "{-0}", "{+1}", "{1++}", "{1-}",
		"{1 }", "{ 1}", "{1} ", "{1}x", "{1}}", "{1}+", "{1+}+", "{1.0}", "{0x1}", "{1_0}", "{1\x00}", "{\u0661}", "{1000000000}", "{1000000000+}",
		"{18446744073709551617}", "{" + strings.Repeat("9", 300) + "}", "{1{}", "{1}{", "{1}{+}", "{1}\n", "{1}\r",
	} {
		for _, text := range []string{s, "a " + s, "{2}" + s} {
			checkFeed(t, impl.Framer{}, []string{text + "\r\n"}, impl.Framer{}, []impl.Event{evLine(text)})
			checkDivided(t, impl.Framer{}, text+"\r\nb\r\n")
		}
	}
	for _, before := range []string{"", "a ", "{", "}", "{x", "{1}", "{1+}", "{01", "a{", "{1000000000}", "\r", "\n", "\x00\xff"} {
		for _, number := range []int{0, 1, 2, 9, 10, 12, 99, 100, 399, 400} {
			text := before + "{" + strconv.Itoa(number) + "}\r\n"
			checkFeed(t, impl.Framer{}, []string{text}, impl.Framer{Line: text, From: len(text), Need: number}, []impl.Event{evMore})
			text = before + "{" + strconv.Itoa(number) + "+}\r\n"
			checkFeed(t, impl.Framer{}, []string{text}, impl.Framer{Line: text, From: len(text), Need: number}, nil)
		}
		for _, number := range []int{401, 402, 500, 1000, 4000, 999999999} {
			text := before + "{" + strconv.Itoa(number) + "}\r\n"
			checkFeed(t, impl.Framer{}, []string{text}, impl.Framer{}, []impl.Event{evBig})
			checkDivided(t, impl.Framer{}, text+"b\r\n")
			text = before + "{" + strconv.Itoa(number) + "+}\r\n"
			checkFeed(t, impl.Framer{}, []string{text}, impl.Framer{Skip: number}, []impl.Event{evBig})
			checkDivided(t, impl.Framer{}, text+"b\r\n")
		}
	}
}

// TestFeedLargestLiterals covers literals of MaxLit bytes and one evMore, in full and with the line after them.
func TestFeedLargestLiterals(t *testing.T) {
	zero := impl.Framer{}
	ends := strings.Repeat("\r\n", 200)
	announced := strings.Repeat("{1}\r\n", 80)
	for _, body := range []string{xs(400), ends, announced, strings.Repeat("\x00", 400), strings.Repeat("\r", 400)} {
		checkRows(t, []feedRow{
			{"a {400}\r\n" + body + " b\r\nc\r\n", zero, []impl.Event{evMore, evLine("a {400}\r\n" + body + " b"), evLine("c")}},
			{"a {400+}\r\n" + body + "\r\nc", impl.Framer{Line: "c"}, []impl.Event{evLine("a {400+}\r\n" + body)}},
			{"a {401+}\r\n" + body, impl.Framer{Skip: 1}, []impl.Event{evBig}},
			{"a {401+}\r\n" + body + "\r", zero, []impl.Event{evBig}},
			{"a {401+}\r\n" + body + "\rb\r\n", zero, []impl.Event{evBig, evLine("b")}},
			{"a {1+}\r\nx{401+}\r\n" + body + "\nb\r\n", zero, []impl.Event{evBig, evLine("b")}},
		})
	}
	checkRows(t, []feedRow{
		{"a {401}\r\nb\r\n", zero, []impl.Event{evBig, evLine("b")}},
		{"a {401}\r\n\r\n", zero, []impl.Event{evBig, evLine("")}},
		{"{1}\r\nx{401}\r\nb\r\n", zero, []impl.Event{evMore, evBig, evLine("b")}},
		{"{999999999}\r\nb\r\n", zero, []impl.Event{evBig, evLine("b")}},
		{"{999999999+}\r\nb\r\n", impl.Framer{Skip: 999999996}, []impl.Event{evBig}},
	})
}

// TestFeedSeveralLiterals covers commands with more than one literal.
func TestFeedSeveralLiterals(t *testing.T) {
	zero := impl.Framer{}
	checkRows(t, []feedRow{
		{"a {1}\r\nx {2}\r\nyz\r\n", zero, []impl.Event{evMore, evMore, evLine("a {1}\r\nx {2}\r\nyz")}},
		{"a {1+}\r\nx {2}\r\nyz\r\n", zero, []impl.Event{evMore, evLine("a {1+}\r\nx {2}\r\nyz")}},
		{"a {1+}\r\nx {2+}\r\nyz\r\n", zero, []impl.Event{evLine("a {1+}\r\nx {2+}\r\nyz")}},
		{"a {0}\r\n{0}\r\n{0}\r\n\r\n", zero, []impl.Event{evMore, evMore, evMore, evLine("a {0}\r\n{0}\r\n{0}\r\n")}},
		{"a {5}\r\n{9}\r\n{3}\r\nxyz\r\n", zero, []impl.Event{evMore, evMore, evLine("a {5}\r\n{9}\r\n{3}\r\nxyz")}},
		{"a {5}\r\n{9}\r\n\r\n", zero, []impl.Event{evMore, evLine("a {5}\r\n{9}\r\n")}},
	})
	// The rule for announcements looks at all of the command so far, the one for line ends only behind the literal.
	checkRows(t, []feedRow{
		{"a {3}\r\n{2}\r\nxy\r\n", zero, []impl.Event{evMore, evMore, evLine("a {3}\r\n{2}\r\nxy")}},
		{"a {2}\r\n{2}\r\nxy\r\n", zero, []impl.Event{evMore, evMore, evLine("a {2}\r\n{2}\r\nxy")}},
		{"a {1}\r\n{02}\r\n", zero, []impl.Event{evMore, evLine("a {1}\r\n{02}")}},
	})
	full := strings.Repeat("{100}\r\n"+xs(100), 9)
	checkRows(t, []feedRow{
		{full + "\r\n", zero, append(slices.Repeat([]impl.Event{evMore}, 9), evLine(full))},
		{full + "{23}\r\n", impl.Framer{Line: full + "{23}\r\n", From: 969, Need: 23}, slices.Repeat([]impl.Event{evMore}, 10)},
		{full + "{31}\r\n" + xs(31), impl.Framer{Line: full + "{31}\r\n" + xs(31), From: 1000}, slices.Repeat([]impl.Event{evMore}, 10)},
		{full + "{32}\r\n", zero, append(slices.Repeat([]impl.Event{evMore}, 9), evBig)},
		{full + "{31+}\r\n", impl.Framer{Skip: 31}, append(slices.Repeat([]impl.Event{evMore}, 9), evBig)},
	})
}

// TestFeedLinesWithLiterals covers lines that have MaxLine bytes with their literal, and one more.
func TestFeedLinesWithLiterals(t *testing.T) {
	zero := impl.Framer{}
	most := xs(693) + "{300}\r\n"
	mostPlus := xs(692) + "{300+}\r\n"
	less := xs(692) + "{300}\r\n" + xs(300)
	checkRows(t, []feedRow{
		{most, impl.Framer{Line: most, From: 700, Need: 300}, []impl.Event{evMore}},
		{mostPlus, impl.Framer{Line: mostPlus, From: 700, Need: 300}, nil},
		{most + xs(300), impl.Framer{Line: most + xs(300), From: 1000}, []impl.Event{evMore}},
		{most + xs(300) + "\r\nb\r\n", zero, []impl.Event{evMore, evLong, evLine("b")}},
		{mostPlus + xs(301), impl.Framer{Line: "x", Drop: true}, []impl.Event{evLong}},
		{less + "\r\nb\r\n", zero, []impl.Event{evMore, evLine(less), evLine("b")}},
		{less + "x\r\nb\r\n", zero, []impl.Event{evMore, evLong, evLine("b")}},
		{"x" + most, zero, []impl.Event{evBig}},
		{"x" + most + "b\r\n", zero, []impl.Event{evBig, evLine("b")}},
		{"x" + mostPlus, impl.Framer{Skip: 300}, []impl.Event{evBig}},
		{"x" + mostPlus + xs(300) + "b\r\n", zero, []impl.Event{evBig, evLine("b")}},
		{xs(995) + "{0}\r\n", impl.Framer{Line: xs(995) + "{0}\r\n", From: 1000}, []impl.Event{evMore}},
		{xs(995) + "{0}\r\n\r\n", zero, []impl.Event{evMore, evLong}},
		{xs(994) + "{0}\r\n\r\n", zero, []impl.Event{evMore, evLine(xs(994) + "{0}\r\n")}},
		{xs(996) + "{0}\r\n", zero, []impl.Event{evBig}},
		{xs(995) + "{0+}\r\n", zero, []impl.Event{evBig}},
		{xs(994) + "{0+}\r\n", impl.Framer{Line: xs(994) + "{0+}\r\n", From: 1000}, nil},
	})
}

func TestFeedLongLines(t *testing.T) {
	zero := impl.Framer{}
	checkRows(t, []feedRow{
		{xs(998) + "\r\n", zero, []impl.Event{evLine(xs(998))}},
		{xs(999), impl.Framer{Line: xs(999)}, nil},
		{xs(999) + "\r", impl.Framer{Line: xs(999) + "\r"}, nil},
		{xs(999) + "\r\n", zero, []impl.Event{evLine(xs(999))}},
		{xs(999) + "\r\nb\r\n", zero, []impl.Event{evLine(xs(999)), evLine("b")}},
		{xs(998) + "\r\r\n", zero, []impl.Event{evLine(xs(998) + "\r")}},
		{xs(1000), impl.Framer{Line: xs(1000)}, nil},
		{xs(1000) + "\r", impl.Framer{Line: "\r", Drop: true}, []impl.Event{evLong}},
		{xs(1000) + "\r\n", zero, []impl.Event{evLong}},
		{xs(1000) + "\r\nb\r\n", zero, []impl.Event{evLong, evLine("b")}},
		{xs(1000) + "\r\n\r\n", zero, []impl.Event{evLong, evLine("")}},
		{xs(1000) + "\n", impl.Framer{Line: "\n", Drop: true}, []impl.Event{evLong}},
		{xs(1000) + "\n\r\n", zero, []impl.Event{evLong}},
		{xs(999) + "\r\r\n", zero, []impl.Event{evLong}},
		{xs(999) + "\rx\r\n", zero, []impl.Event{evLong}},
		{xs(1001), impl.Framer{Line: "x", Drop: true}, []impl.Event{evLong}},
		{xs(1001) + "\r\nb\r\n", zero, []impl.Event{evLong, evLine("b")}},
		{xs(1001) + "\n\rb\r", impl.Framer{Line: "\r", Drop: true}, []impl.Event{evLong}},
		{xs(1001) + "\r\r\nb\r\n", zero, []impl.Event{evLong, evLine("b")}},
		{xs(1001) + "{3}\r\nb\r\n", zero, []impl.Event{evLong, evLine("b")}},
		{xs(5000) + "\r\nb\r\n", zero, []impl.Event{evLong, evLine("b")}},
		{xs(1500) + "\r\n" + xs(1500) + "\r\n" + xs(999) + "\r\n", zero, []impl.Event{evLong, evLong, evLine(xs(999))}},
		{strings.Repeat("\n", 1001), impl.Framer{Line: "\n", Drop: true}, []impl.Event{evLong}},
		{strings.Repeat("\r", 1001), impl.Framer{Line: "\r", Drop: true}, []impl.Event{evLong}},
		{strings.Repeat("\r", 1001) + "\nb\r\n", zero, []impl.Event{evLong, evLine("b")}},
	})
}

// TestFeedByRule feeds all short texts, and all short lists of pieces that decide something.
func TestFeedByRule(t *testing.T) {
	for _, s := range append(textsOf("\r\n{1}+", 5), textsOf("\r\na", 7)...) {
		checkDivided(t, impl.Framer{}, s)
	}
	tokens := []string{"\r", "\n", "\r\n", "a", "{", "1", "}", "+}", "{0}\r\n", "{2}\r\n", "{2+}\r\n", "{3}\r", "{401}\r\n", "{1000000000}", xs(990)}
	for _, a := range tokens {
		for _, b := range tokens {
			for _, c := range tokens {
				s := a + b + c
				f, events := frameText(impl.Framer{}, s)
				for _, d := range tokens {
					want, last := frameText(f, d)
					checkFeed(t, impl.Framer{}, []string{s, d}, want, slices.Concat(events, last))
				}
				if len(s) < 100 {
					checkDivided(t, impl.Framer{}, s)
				}
			}
		}
	}
}

func TestFeedEveryByte(t *testing.T) {
	all := allBytes()
	for i := range len(all) {
		sign := all[i : i+1]
		for _, s := range []string{sign, sign + "\r\n", "a" + sign + "\r\n", "{1" + sign + "\r\n", "{" + sign + "}\r\nb\r\n", "{1}" + sign + "\n", "{1}\r\n" + sign + "\r\n", "\r" + sign, "\r" + sign + "\n", "{1}\r\nx\r" + sign} {
			checkDivided(t, impl.Framer{}, s)
		}
	}
	checkDivided(t, impl.Framer{}, all+"\r\n")
	checkDivided(t, impl.Framer{}, "a {256}\r\n"+all+"\r\n")
}

// TestFeedThreeChunks divides a text at every two indexes.
func TestFeedThreeChunks(t *testing.T) {
	s := "a {3}\r\n\r\nx {4+}\r\n{1}\r {2}\r\n\r\n\r\nb {500+}\r\n\r\n"
	want, events := frameText(impl.Framer{}, s)
	for i := range len(s) + 1 {
		for j := i; j <= len(s); j++ {
			checkFeed(t, impl.Framer{}, []string{s[:i], s[i:j], s[j:]}, want, events)
		}
	}
}

// TestFeedOddFramers feeds Framers that no input leads to, too: From, Need and Skip of every kind, long Lines, Drop beside others.
func TestFeedOddFramers(t *testing.T) {
	lines := []string{"", "\r", "\n", "a\r", "\r\r", "a\r\n", "{2}\r", "{2+}\r", "a{401}\r", "a{401+}\r", "{2}\r\nxy", "{1}\r\n\r", xs(999), xs(999) + "\r", xs(1000), xs(999) + "{0}\r", xs(1500) + "\r", xs(3000)}
	numbers := []int{math.MinInt, -5, -1, 0, 1, 2, 3, math.MaxInt}
	chunks := []string{"", "\n", "\r\n", "a", "\na{1+}\r\nb\r\nc", "\r\n\r\n\r\n\r\n"}
	for _, text := range lines {
		for _, from := range append([]int{len(text) - 1, len(text), len(text) + 1, 999, 1000}, numbers...) {
			for _, need := range numbers {
				for _, skip := range numbers {
					f := impl.Framer{Line: text, From: from, Need: need, Skip: skip}
					checkOddFramer(t, f, chunks)
					f.Drop = true
					checkOddFramer(t, f, chunks)
				}
			}
		}
	}
}

func checkOddFramer(t *testing.T, f impl.Framer, chunks []string) {
	t.Helper()
	for _, s := range chunks {
		want, events := frameText(f, s)
		checkFeed(t, f, []string{s}, want, events)
		checkFeed(t, f, strings.Split(s, ""), want, events)
	}
}

func TestFeedNegativeNumbers(t *testing.T) {
	for _, x := range []struct {
		f      impl.Framer
		chunk  string
		after  impl.Framer
		events []impl.Event
	}{
		{impl.Framer{From: -3, Need: -4, Skip: -5}, "", impl.Framer{From: -3, Need: -4, Skip: -5}, nil},
		{impl.Framer{From: -3, Need: -4, Skip: -5}, "ab", impl.Framer{Line: "ab", From: -3, Need: -4, Skip: -5}, nil},
		{impl.Framer{From: -3, Need: -4, Skip: -5}, "\r\n", impl.Framer{}, []impl.Event{evLine("")}},
		{impl.Framer{From: -3, Need: -4, Skip: -5}, "{0}\r\n", impl.Framer{Line: "{0}\r\n", From: 5, Skip: -5}, []impl.Event{evMore}},
		{impl.Framer{From: -3, Need: -4, Skip: -5}, "{2+}\r\n", impl.Framer{Line: "{2+}\r\n", From: 6, Need: 2, Skip: -5}, nil},
		{impl.Framer{From: -3, Need: -4, Skip: -5}, "{401}\r\n", impl.Framer{}, []impl.Event{evBig}},
		{impl.Framer{From: -3, Need: -4, Skip: -5}, "{401+}\r\n", impl.Framer{Skip: 401}, []impl.Event{evBig}},
		{impl.Framer{Line: xs(1000), From: -3, Need: -4, Skip: -5}, "a", impl.Framer{Line: "a", Need: -4, Skip: -5, Drop: true}, []impl.Event{evLong}},
		{impl.Framer{Line: "\r", From: -3, Need: -4, Skip: -5, Drop: true}, "\n", impl.Framer{From: -3, Need: -4, Skip: -5}, nil},
		{impl.Framer{Line: "\r", From: 7, Need: -4, Skip: -5, Drop: true}, "a", impl.Framer{Line: "a", From: 7, Need: -4, Skip: -5, Drop: true}, nil},
		{impl.Framer{Line: "b\r", Drop: true}, "\n", impl.Framer{Line: "\n", Drop: true}, nil},
		{impl.Framer{Line: "long", Drop: true}, "a", impl.Framer{Line: "a", Drop: true}, nil},
		{impl.Framer{Line: "a\r", From: 1}, "\n", impl.Framer{}, []impl.Event{evLine("a")}},
		{impl.Framer{Line: "a\r", From: 2}, "\n", impl.Framer{Line: "a\r\n", From: 2}, nil},
		{impl.Framer{Line: "a\r", From: math.MaxInt}, "\n", impl.Framer{Line: "a\r\n", From: math.MaxInt}, nil},
		{impl.Framer{Line: xs(1000) + "\r"}, "\n", impl.Framer{}, []impl.Event{evLine(xs(1000))}},
		{impl.Framer{Line: "\r", Need: 1, Drop: true}, "\n", impl.Framer{Line: "\r\n", From: 2, Drop: true}, nil},
		{impl.Framer{Line: "\r", Need: 1, Skip: 1, Drop: true}, "\n", impl.Framer{Line: "\r", Need: 1, Drop: true}, nil},
		{impl.Framer{Line: xs(2000), Need: 2}, "\r\n", impl.Framer{Line: xs(2000) + "\r\n", From: 2002}, nil},
	} {
		checkFeed(t, x.f, []string{x.chunk}, x.after, x.events)
	}
}

// TestLiteralIsWhole gives literals of all short contents: the line is what stands behind them, whatever they contain.
func TestLiteralIsWhole(t *testing.T) {
	for _, body := range append(textsOf("\r\n{1}+", 5), xs(400), strings.Repeat("\r\n", 100), strings.Repeat("{400}\r\n", 50)) {
		size := strconv.Itoa(len(body))
		checkFeed(t, impl.Framer{}, []string{"a {" + size + "}\r\n" + body + ".\r\n"}, impl.Framer{}, []impl.Event{evMore, evLine("a {" + size + "}\r\n" + body + ".")})
		checkFeed(t, impl.Framer{}, []string{"a {" + size + "+}\r\n", body + ".\r\n"}, impl.Framer{}, []impl.Event{evLine("a {" + size + "+}\r\n" + body + ".")})
	}
}

func TestWaiting(t *testing.T) {
	for _, n := range []int{0, 1, 2, 999, 1000, 1001, 50000} {
		for _, f := range []impl.Framer{{Line: xs(n)}, {Line: xs(n), From: 3, Need: 4, Skip: 5, Drop: true}, {Line: xs(n), From: -3, Need: -4, Skip: -5}} {
			if got := impl.Waiting(f); got != n {
				t.Errorf("Waiting of %d bytes = %d", n, got)
			}
		}
	}
	if got := impl.Waiting(impl.Framer{Line: "\u00e9\xff\x00\r\n"}); got != 6 {
		t.Error("Waiting counts bytes", got)
	}
}

// TestFeedBuffersOneLine feeds long inputs of many kinds: at no byte is more kept than MaxLine bytes.
func TestFeedBuffersOneLine(t *testing.T) {
	for _, s := range []string{
		xs(5000), strings.Repeat("\r", 5000), strings.Repeat("\n", 5000), strings.Repeat("\r\n", 2500), strings.Repeat("{400}\r\n", 700), strings.Repeat("{400+}\r\n"+xs(400), 9),
		strings.Repeat("{9}\r\n", 900), strings.Repeat("{0}\r\n", 900), xs(995) + strings.Repeat("{0}\r\n", 900), xs(600) + "{392}\r\n" + xs(5000), xs(593) + "{400}\r\n" + xs(5000), xs(999) + "\r\n" + xs(5000),
	} {
		f := impl.Framer{}
		for i := range len(s) {
			f, _ = impl.Feed(f, s[i:i+1])
			if got := impl.Waiting(f); got > impl.MaxLine || got != len(f.Line) {
				t.Fatalf("Waiting after %d bytes of %.20q = %d", i+1, s, got)
			}
		}
		if whole, _ := impl.Feed(impl.Framer{}, s); whole != f {
			t.Fatalf("Feed of %.20q = %+v, byte by byte %+v", s, whole, f)
		}
	}
}

func TestCut(t *testing.T) {
	for _, x := range []struct {
		s     string
		sizes []int
		want  []string
	}{
		{"", nil, nil}, {"", []int{}, nil}, {"", []int{0}, nil}, {"", []int{1, 0, -1}, nil},
		{"abc", nil, []string{"abc"}}, {"abc", []int{}, []string{"abc"}}, {"abc", []int{0}, []string{"", "abc"}}, {"abc", []int{-1}, []string{"", "abc"}},
		{"abc", []int{1}, []string{"a", "bc"}}, {"abc", []int{3}, []string{"abc"}}, {"abc", []int{4}, []string{"abc"}}, {"abc", []int{2, 1}, []string{"ab", "c"}},
		{"abc", []int{2, 5}, []string{"ab", "c"}}, {"abc", []int{3, 0}, []string{"abc"}}, {"abc", []int{3, 1, -2, 7}, []string{"abc"}}, {"abc", []int{0, 3, 0}, []string{"", "abc"}},
		{"abc", []int{0, 0, -9, 1}, []string{"", "", "", "a", "bc"}}, {"abc", []int{math.MaxInt, math.MaxInt}, []string{"abc"}}, {"abc", []int{math.MinInt, 2}, []string{"", "ab", "c"}},
		{"abc", []int{1, math.MaxInt}, []string{"a", "bc"}}, {"abcdef", []int{1, 0, 2, -3}, []string{"a", "", "bc", "", "def"}}, {"\u00e9\xff\r\n", []int{1, 3}, []string{"\xc3", "\xa9\xff\r", "\n"}},
	} {
		if got := impl.Cut(x.s, x.sizes); !slices.Equal(got, x.want) {
			t.Errorf("Cut(%q, %v) = %q, want %q", x.s, x.sizes, got, x.want)
		}
	}
}

// cutText is Cut as the document words it, byte by byte.
func cutText(s string, sizes []int) []string {
	list := []string{}
	at := 0
	for i := 0; at < len(s); i++ {
		from := at
		for at < len(s) && (i >= len(sizes) || at-from < sizes[i]) {
			at++
		}
		list = append(list, s[from:at])
	}
	return list
}

func TestCutByRule(t *testing.T) {
	numbers := []int{-2, 0, 1, 2, 3, 9}
	for _, s := range []string{"", "a", "ab", "abcd", "abcdefgh"} {
		for _, code := range textsOf("\x00\x01\x02\x03\x04\x05", 4) {
			sizes := make([]int, 0, 8)
			for i := range len(code) {
				sizes = append(sizes, numbers[code[i]])
			}
			spare := append(slices.Clone(sizes), 70, 71)
			got := impl.Cut(s, spare[:len(sizes)])
			if !slices.Equal(got, cutText(s, sizes)) || strings.Join(got, "") != s {
				t.Fatalf("Cut(%q, %v) = %q", s, sizes, got)
			}
			if !slices.Equal(spare, append(sizes, 70, 71)) {
				t.Fatal("an argument was modified")
			}
		}
	}
}

// TestFeedOfCutText feeds what Cut makes of a text: all divisions give the same.
func TestFeedOfCutText(t *testing.T) {
	s := "a LOGIN {3}\r\nx\r\n {2+}\r\n\r\n\r\nb NOOP\r\n" + xs(1001) + "\r\nc {401}\r\nd {500+}\r\n" + strings.Repeat("\r\n", 250) + "e\r\nf"
	want, events := frameText(impl.Framer{}, s)
	for size := 1; size <= len(s); size++ {
		checkFeed(t, impl.Framer{}, impl.Cut(s, slices.Repeat([]int{size, 0}, len(s)/size+1)), want, events)
		checkFeed(t, impl.Framer{}, impl.Cut(s, []int{size, 1, -1, 2, 3, 0, 5, 8, 13, 21}), want, events)
	}
}

// TestFrameLeavesArguments calls every function of the chapter on odd and long arguments and checks that they stay as they were and that no result is shared.
func TestFrameLeavesArguments(t *testing.T) {
	for _, s := range []string{
		"", allBytes(), xs(200000), strings.Repeat("\r\n", 50000), strings.Repeat("{1}\r\n", 40000), strings.Repeat("{0}\r\n", 40000), strings.Repeat("{", 200000), strings.Repeat("{401+}\r\n", 30000),
	} {
		for _, f := range []impl.Framer{{}, {Line: s}, {Line: s, Need: math.MaxInt}, {Line: s, From: math.MinInt, Need: math.MinInt, Skip: math.MinInt, Drop: true}, {Line: s, From: math.MaxInt, Skip: math.MaxInt}} {
			text, kept := bytes.Clone([]byte(f.Line)), bytes.Clone([]byte(s))
			before := f
			next, events := impl.Feed(f, s)
			own := slices.Clone(events)
			for i := range events {
				events[i] = impl.Event{Kind: 9, Text: "changed"}
			}
			again, list := impl.Feed(f, s)
			if next != again || !slices.Equal(own, list) || f != before || f.Line != string(text) || s != string(kept) {
				t.Fatalf("Feed of a Line of %d bytes and %.20q is not the same twice", len(f.Line), s)
			}
			impl.Waiting(f)
		}
		sizes := append(make([]int, 0, 99), 1, math.MinInt, 5, math.MaxInt, 0)
		pieces := impl.Cut(s, sizes)
		own := slices.Clone(pieces)
		clear(pieces)
		if !slices.Equal(impl.Cut(s, sizes), own) || !slices.Equal(sizes, []int{1, math.MinInt, 5, math.MaxInt, 0}) || strings.Join(own, "") != s {
			t.Fatalf("Cut of %.20q is not the same twice", s)
		}
	}
}
