package tests

import (
	"bytes"
	"math"
	"slices"
	"strconv"
	"strings"
	"testing"

	"loop.example/g00785/impl"
)

// textsOf returns all texts of at most most bytes over the given bytes.
func textsOf(over string, most int) []string {
	list := []string{""}
	for from, length := 0, 0; length < most; length++ {
		to := len(list)
		for _, s := range list[from:to] {
			for i := range len(over) {
				list = append(list, s+over[i:i+1])
			}
		}
		from = to
	}
	return list
}

// allBytes returns the text of the bytes 0 to 255.
func allBytes() string {
	var b [256]byte
	for i := range b {
		b[i] = byte(i)
	}
	return string(b[:])
}

func TestDecText(t *testing.T) {
	for _, x := range []struct {
		n int
		s string
	}{
		{0, "0"}, {7, "7"}, {10, "10"}, {-1, "-1"}, {-120, "-120"}, {100000, "100000"},
		{999999999, "999999999"}, {1000000000, "1000000000"},
		{math.MaxInt, "9223372036854775807"}, {math.MinInt, "-9223372036854775808"},
	} {
		if got := impl.DecText(x.n); got != x.s {
			t.Errorf("DecText(%d) = %q, want %q", x.n, got, x.s)
		}
	}
}

func TestReadDecRecoversNumbers(t *testing.T) {
	check := func(n int) {
		want := n
		if n < 0 || n > 999999999 {
			want = -1
		}
		if got := impl.ReadDec(impl.DecText(n)); got != want {
			t.Errorf("ReadDec(DecText(%d)) = %d, want %d", n, got, want)
		}
	}
	for n := -2000; n <= 20000; n++ {
		check(n)
	}
	for power := 1; power <= 1000000000000000000; power *= 10 {
		for _, n := range []int{power - 1, power, power + 1, 9 * power} {
			check(n)
			check(-n)
		}
	}
	check(math.MaxInt)
	check(math.MinInt)
}

func TestReadDecRejects(t *testing.T) {
	for _, s := range []string{
		"", "00", "01", "012", "000000000", "0999999999", "-0", "-1", "-120", "+0", "+1", "--1",
		" 1", "1 ", "1\r\n", "\t1", "1.0", "1e3", "0x1", "1_0", "a", "1a", "a1", "/", ":", "1:", "1/",
		"1000000000", "9999999999", "9223372036854775807", "9223372036854775808", "18446744073709551617",
		"4294967297", "1\x00", "\x001", "\xb2", "\u0661", "\uff11",
		strings.Repeat("0", 5000), strings.Repeat("9", 5000), strings.Repeat("0", 5000) + "1",
	} {
		if got := impl.ReadDec(s); got != -1 {
			t.Errorf("ReadDec(%q) = %d, want -1", s, got)
		}
	}
}

func TestReadDecAcceptsDecTextOnly(t *testing.T) {
	for _, s := range textsOf("0127+- a\x00", 4) {
		if n := impl.ReadDec(s); n != -1 && (n < 0 || impl.DecText(n) != s) {
			t.Errorf("ReadDec(%q) = %d, whose DecText differs", s, n)
		} else if want, err := strconv.Atoi(s); n == -1 && err == nil && strconv.Itoa(want) == s && want >= 0 {
			t.Errorf("ReadDec(%q) = -1, want %d", s, want)
		}
	}
}

// upperByte is the rule of Upper for one byte.
func upperByte(c byte) byte {
	if c >= 'a' && c <= 'z' {
		return c - 32
	}
	return c
}

func TestUpper(t *testing.T) {
	for c := range 256 {
		s := string([]byte{byte(c)})
		want := string([]byte{upperByte(byte(c))})
		if got := impl.Upper(s); got != want {
			t.Errorf("Upper(%q) = %q, want %q", s, got, want)
		}
	}
	for _, x := range [][2]string{
		{"", ""}, {"Inbox", "INBOX"}, {"aZ{9`@[", "AZ{9`@["}, {"a\x00b\xe4\xff", "A\x00B\xe4\xff"},
		{"\u00e4\u00df\u0131", "\u00e4\u00df\u0131"}, {strings.Repeat("ab\r\n", 3000), strings.Repeat("AB\r\n", 3000)},
	} {
		if got := impl.Upper(x[0]); got != x[1] {
			t.Errorf("Upper(%q) = %q, want %q", x[0], got, x[1])
		}
	}
}

func TestUpperIsIdempotent(t *testing.T) {
	for _, s := range append(textsOf("azAZ@[`{\x00\xe4", 3), allBytes(), "\u00e4\u0131\u017f") {
		once := impl.Upper(s)
		if twice := impl.Upper(once); twice != once || len(once) != len(s) {
			t.Errorf("Upper(%q) = %q, then %q", s, once, twice)
		}
	}
}

func TestSame(t *testing.T) {
	for _, x := range []struct {
		a, b string
		same bool
	}{
		{"", "", true}, {"Inbox", "iNBOX", true}, {"a9-\xe4", "A9-\xe4", true}, {"a", "b", false},
		{"a", "", false}, {"", "a", false}, {"a", "aa", false}, {"a", "a ", false}, {"a", "a\x00", false},
		{"@", "`", false}, {"[", "{", false}, {"\x00", " ", false}, {"\xe4", "\xc4", false},
		{"\u00e4", "\u00c4", false}, {"k", "\u212a", false}, {"s", "\u017f", false}, {"\xff", "\xfe", false},
	} {
		if got := impl.Same(x.a, x.b); got != x.same {
			t.Errorf("Same(%q, %q) = %v", x.a, x.b, got)
		}
	}
	for a := range 256 {
		for b := range 256 {
			want := upperByte(byte(a)) == upperByte(byte(b))
			if got := impl.Same(string([]byte{byte(a)}), string([]byte{byte(b)})); got != want {
				t.Errorf("Same of bytes %d and %d = %v", a, b, got)
			}
		}
	}
}

func TestTrim(t *testing.T) {
	for _, x := range [][2]string{
		{"", ""}, {" ", ""}, {" \t \t", ""}, {"a", "a"}, {" a", "a"}, {"a\t", "a"}, {" \ta b\t ", "a b"},
		{"a \t b", "a \t b"}, {"\r", "\r"}, {" \r\n ", "\r\n"}, {"\n a", "\n a"}, {"a \r", "a \r"},
		{"\va\f", "\va\f"}, {"\x00 ", "\x00"}, {"\u00a0a\u00a0", "\u00a0a\u00a0"}, {" \xa0\xff\t", "\xa0\xff"},
		{"\x85", "\x85"}, {strings.Repeat(" \t", 5000) + "x", "x"},
	} {
		if got := impl.Trim(x[0]); got != x[1] {
			t.Errorf("Trim(%q) = %q, want %q", x[0], got, x[1])
		}
	}
	for c := range 256 {
		s := string([]byte{byte(c)})
		want := s
		if c == 9 || c == 32 {
			want = ""
		}
		if got := impl.Trim(" " + s + "\t"); got != want {
			t.Errorf("Trim around byte %d = %q, want %q", c, got, want)
		}
	}
}

func TestSplit(t *testing.T) {
	for _, x := range []struct {
		s    string
		by   byte
		want []string
	}{
		{"", ',', []string{""}}, {",", ',', []string{"", ""}}, {"abc", ',', []string{"abc"}},
		{"a,b", ',', []string{"a", "b"}}, {",a", ',', []string{"", "a"}}, {"a,", ',', []string{"a", ""}},
		{"a,,b,", ',', []string{"a", "", "b", ""}}, {",,,", ',', []string{"", "", "", ""}},
		{" a , b ", ',', []string{" a ", " b "}}, {"a\x00b", 0, []string{"a", "b"}},
		{"aBab", 'a', []string{"", "B", "b"}}, {"\u00e4", 0xa4, []string{"\xc3", ""}},
		{"\u00e4", 0xe4, []string{"\u00e4"}}, {"x\xffy", 0xff, []string{"x", "y"}},
		{"a\r\nb", '\n', []string{"a\r", "b"}},
	} {
		if got := impl.Split(x.s, x.by); !slices.Equal(got, x.want) {
			t.Errorf("Split(%q, %q) = %q, want %q", x.s, x.by, got, x.want)
		}
	}
}

func TestSplitIsRecoveredByJoin(t *testing.T) {
	for by := range 256 {
		mark := string([]byte{byte(by)})
		for _, s := range append(textsOf("a,"+mark, 4), allBytes(), allBytes()+allBytes()) {
			parts := impl.Split(s, byte(by))
			if strings.Join(parts, mark) != s || len(parts) != strings.Count(s, mark)+1 {
				t.Fatalf("Split(%q, %d) = %q", s, by, parts)
			}
			for _, part := range parts {
				if strings.IndexByte(part, byte(by)) >= 0 {
					t.Fatalf("Split(%q, %d) has the separator in %q", s, by, part)
				}
			}
		}
	}
}

func TestSplitRecoversParts(t *testing.T) {
	words := textsOf("ab\xff", 2)
	for _, a := range words {
		for _, b := range words {
			for _, c := range words {
				if got := impl.Split(a+","+b+","+c, ','); !slices.Equal(got, []string{a, b, c}) {
					t.Fatalf("parts %q %q %q became %q", a, b, c, got)
				}
			}
		}
	}
}

// firstAt is Find as the document words it, by trying every index.
func firstAt(s string, t string) int {
	for i := 0; i+len(t) <= len(s); i++ {
		if s[i:i+len(t)] == t {
			return i
		}
	}
	return -1
}

func TestFind(t *testing.T) {
	for _, x := range []struct {
		s, t string
		at   int
	}{
		{"", "", 0}, {"abc", "", 0}, {"", "a", -1}, {"ab", "abc", -1}, {"abc", "abc", 0}, {"abcabc", "ca", 2},
		{"aab", "ab", 1}, {"aaaaab", "aaab", 2}, {"ababac", "abac", 2}, {"abc", "c", 2}, {"abc", "d", -1},
		{"abc", "B", -1}, {"a\x00b", "\x00", 1}, {"\u00e4", "\xa4", 1}, {"\xff\xfe", "\xfe", 1}, {"\xff", "\xfe", -1},
		{"\xff", "\ufffd", -1}, {strings.Repeat("a", 4000) + "b", strings.Repeat("a", 100) + "b", 3900},
	} {
		if got := impl.Find(x.s, x.t); got != x.at {
			t.Errorf("Find(%q, %q) = %d, want %d", x.s, x.t, got, x.at)
		}
	}
	for _, s := range textsOf("ab\xff", 6) {
		for _, sought := range textsOf("ab\xff", 3) {
			if got, want := impl.Find(s, sought), firstAt(s, sought); got != want {
				t.Fatalf("Find(%q, %q) = %d, want %d", s, sought, got, want)
			}
		}
	}
}

// linesOf is CountLines as the document words it, by looking at every index.
func linesOf(s string) int {
	count, end := 0, 0
	for i := 0; i+1 < len(s); i++ {
		if s[i] == 13 && s[i+1] == 10 {
			count++
			end = i + 2
		}
	}
	if end < len(s) {
		count++
	}
	return count
}

func TestCountLines(t *testing.T) {
	for _, x := range []struct {
		s string
		n int
	}{
		{"", 0}, {"a", 1}, {"a\r\n", 1}, {"\r\n", 1}, {"a\r\nb", 2}, {"a\r\nb\r\n", 2}, {"\r\n\r\n", 2},
		{"\r\n\r\na", 3}, {"\r", 1}, {"\n", 1}, {"\n\r", 1}, {"a\nb\nc", 1}, {"a\rb", 1}, {"a\nb\r\n", 1},
		{"\r\r\n", 1}, {"\r\n\r", 2}, {"\r\n\n", 2}, {"\r\n ", 2}, {"\r\n\x00", 2}, {"a\r\n\r\r\n\n", 3},
		{strings.Repeat("x\r\n", 5000), 5000}, {strings.Repeat("\r\n", 5000) + "x", 5001},
	} {
		if got := impl.CountLines(x.s); got != x.n {
			t.Errorf("CountLines(%q) = %d, want %d", x.s, got, x.n)
		}
	}
	for _, s := range textsOf("\r\na", 7) {
		if got, want := impl.CountLines(s), linesOf(s); got != want {
			t.Fatalf("CountLines(%q) = %d, want %d", s, got, want)
		}
	}
}

// TestTextLeavesArguments calls every function of the chapter on all bytes and checks that the text and earlier results stay as they were.
func TestTextLeavesArguments(t *testing.T) {
	for _, s := range []string{"", allBytes(), strings.Repeat("\r\n \ta", 1500), strings.Repeat("\xff", 6000)} {
		kept := bytes.Clone([]byte(s))
		for by := range 256 {
			first := impl.Split(s, byte(by))
			copied := slices.Clone(first)
			second := impl.Split(s, byte(by))
			for i := range second {
				second[i] = "changed"
			}
			_ = append(second, "more")
			if !slices.Equal(first, copied) || !slices.Equal(impl.Split(s, byte(by)), copied) {
				t.Fatalf("Split by %d shares memory between results", by)
			}
		}
		impl.ReadDec(s)
		impl.Upper(s)
		impl.Same(s, s)
		impl.Trim(s)
		impl.Find(s, s)
		impl.CountLines(s)
		if s != string(kept) {
			t.Fatal("an argument was modified")
		}
	}
}
