package tests

import (
	"bytes"
	"encoding/base64"
	"slices"
	"strings"
	"testing"
	"unicode/utf16"

	"loop.example/g00785/impl"
)

const b64Signs = "ABCDEFGHIJKLMNOPQRSTUVWXYZabcdefghijklmnopqrstuvwxyz0123456789+/"

func checkB64(t *testing.T, s string) {
	t.Helper()
	want := base64.RawStdEncoding.EncodeToString([]byte(s))
	if got := impl.PutB64(s); got != want {
		t.Fatalf("PutB64(%q) = %q, want %q", s, got, want)
	}
	if got, ok := impl.GetB64(want); !ok || got != s {
		t.Fatalf("GetB64(%q) = %q, %v, want %q", want, got, ok, s)
	}
}

func checkNoB64(t *testing.T, s string) {
	t.Helper()
	if got, ok := impl.GetB64(s); ok || got != "" {
		t.Fatalf("GetB64(%q) = %q, %v, want none", s, got, ok)
	}
}

func TestB64(t *testing.T) {
	for _, x := range [][2]string{
		{"", ""}, {"f", "Zg"}, {"fo", "Zm8"}, {"foo", "Zm9v"}, {"foob", "Zm9vYg"}, {"fooba", "Zm9vYmE"},
		{"foobar", "Zm9vYmFy"}, {"\x00", "AA"}, {"\x00\x00", "AAA"}, {"\x00\x00\x00", "AAAA"}, {"\xff", "/w"},
		{"\xff\xff", "//8"}, {"\xff\xff\xff", "////"}, {"\xfb\xef\xbe", "++++"}, {"\xff\xff\xfe", "///+"},
	} {
		if got := impl.PutB64(x[0]); got != x[1] {
			t.Errorf("PutB64(%q) = %q, want %q", x[0], got, x[1])
		}
		if got, ok := impl.GetB64(x[1]); !ok || got != x[0] {
			t.Errorf("GetB64(%q) = %q, %v, want %q", x[1], got, ok, x[0])
		}
	}
}

func TestB64RecoversBytes(t *testing.T) {
	for a := range 256 {
		checkB64(t, string([]byte{byte(a)}))
		for b := range 256 {
			checkB64(t, string([]byte{byte(a), byte(b)}))
			checkB64(t, string([]byte{byte(a), byte(b), byte(a ^ b)}))
		}
	}
	for length := range 256 {
		checkB64(t, allBytes()[:length])
		checkB64(t, allBytes()[256-length:])
		checkB64(t, strings.Repeat("\x00", length))
		checkB64(t, strings.Repeat("\xff", length))
	}
	for _, s := range textsOf("\x00\x01\x80\xfe\xff", 5) {
		checkB64(t, s)
	}
}

// TestGetB64RejectsOtherBits tries all texts of one to three signs: a single one is left over, and the bits that stand for no byte must be 0.
func TestGetB64RejectsOtherBits(t *testing.T) {
	for a := range 64 {
		checkNoB64(t, b64Signs[a:a+1])
		checkNoB64(t, "Zm9v"+b64Signs[a:a+1])
		for b := range 64 {
			two := b64Signs[a:a+1] + b64Signs[b:b+1]
			got, ok := impl.GetB64(two)
			if ok != (b%16 == 0) || ok && got != string([]byte{byte(a<<2 | b>>4)}) || !ok && got != "" {
				t.Fatalf("GetB64(%q) = %q, %v", two, got, ok)
			}
			for c := range 64 {
				three := two + b64Signs[c:c+1]
				got, ok := impl.GetB64(three)
				if ok != (c%4 == 0) || ok && got != string([]byte{byte(a<<2 | b>>4), byte(b<<4 | c>>2)}) || !ok && got != "" {
					t.Fatalf("GetB64(%q) = %q, %v", three, got, ok)
				}
			}
		}
	}
}

func TestGetB64RejectsOtherBytes(t *testing.T) {
	for c := range 256 {
		if strings.IndexByte(b64Signs, byte(c)) >= 0 {
			continue
		}
		sign := string([]byte{byte(c)})
		for _, s := range []string{"", "Zg", "Zm8", "Zm9v", "Zm9vYg", "AAAAAAAA", "////"} {
			for i := range len(s) + 1 {
				checkNoB64(t, s[:i]+sign+s[i:])
				checkNoB64(t, s[:i]+strings.Repeat(sign, 4)+s[i:])
				if i < len(s) {
					checkNoB64(t, s[:i]+sign+s[i+1:])
				}
			}
		}
	}
	for _, s := range []string{
		"=", "==", "====", "Zg=", "Zg==", "Zm8=", "Zm9v=", "Zm9v====", "Zg==Zg==", "Zm9v\r\n", "Zm\r\n9v", " Zm9v", "Zm9v ",
		"Zm-_", "Zm,v", "Zh", "Zm9vYh", "Zm9", "Zm9vY", "Zm9vYmFyZ", strings.Repeat("A", 4001), strings.Repeat("A", 4001) + "B",
	} {
		checkNoB64(t, s)
	}
}

func TestGetB64AcceptsPutB64Only(t *testing.T) {
	for _, s := range textsOf("ABQwz+/=,-", 5) {
		got, ok := impl.GetB64(s)
		if ok && impl.PutB64(got) != s || !ok && got != "" {
			t.Fatalf("GetB64(%q) = %q, %v", s, got, ok)
		}
	}
}

// signText is the shortest encoding of n as the document words it, for numbers of up to 21 bits and surrogates too.
func signText(n int) string {
	switch {
	case n < 0x80:
		return string([]byte{byte(n)})
	case n < 0x800:
		return longSign(n, 2)
	case n < 0x10000:
		return longSign(n, 3)
	}
	return longSign(n, 4)
}

// longSign encodes n in two, three or four bytes, whether or not that is the shortest encoding.
func longSign(n int, size int) string {
	tail := []byte{}
	for range size - 1 {
		tail = append(tail, byte(0x80|n&0x3f))
		n >>= 6
	}
	slices.Reverse(tail)
	lead := []int{2: 0xc0, 3: 0xe0, 4: 0xf0}[size]
	return string([]byte{byte(lead | n)}) + string(tail)
}

func isSign(n int) bool {
	return n >= 0 && n <= 1114111 && (n < 55296 || n > 57343)
}

func checkNoSigns(t *testing.T, s string) {
	t.Helper()
	if impl.SignsOk(s) {
		t.Fatalf("SignsOk(%q) = true", s)
	}
	if got, ok := impl.PutName(s); ok || got != "" {
		t.Fatalf("PutName(%q) = %q, %v, want none", s, got, ok)
	}
	if got, ok := impl.GetName(s); ok || got != "" {
		t.Fatalf("GetName(%q) = %q, %v, want none", s, got, ok)
	}
}

func TestSignsOkOfEveryNumber(t *testing.T) {
	for n := range 0x200000 {
		s := signText(n)
		if got := impl.SignsOk(s); got != isSign(n) {
			t.Fatalf("SignsOk of the encoding of %d = %v", n, got)
		}
		if !isSign(n) {
			if got, ok := impl.PutName(s); ok || got != "" {
				t.Fatalf("PutName of the encoding of %d = %q, %v", n, got, ok)
			}
		}
	}
}

func TestSignsOkRejectsOverlong(t *testing.T) {
	for n := range 0x10000 {
		for size := len(signText(n)) + 1; size <= 4; size++ {
			checkNoSigns(t, longSign(n, size))
		}
	}
	checkNoSigns(t, "\xf8\x88\x80\x80\x80")
	checkNoSigns(t, "\xfc\x84\x80\x80\x80\x80")
}

func TestSignsOkRejectsUnfinished(t *testing.T) {
	for _, n := range []int{0x80, 0x7ff, 0x800, 0x20ac, 0xd7ff, 0xe000, 0xffff, 0x10000, 0x1f600, 0x10ffff} {
		s := signText(n)
		for length := 1; length < len(s); length++ {
			for _, around := range [][2]string{{"", ""}, {"a", ""}, {"", "a"}, {"a", "a"}, {"\u00e4", "\u00e4"}, {s, s}} {
				checkNoSigns(t, around[0]+s[:length]+around[1])
				checkNoSigns(t, around[0]+s[length:]+around[1])
			}
		}
		if !impl.SignsOk(s+"a"+s) || !impl.SignsOk(s+s) {
			t.Errorf("SignsOk of %d twice = false", n)
		}
		checkNoSigns(t, s+"\x80")
	}
}

// signsByRule is SignsOk as the document words it: it takes one shortest encoding after the other.
func signsByRule(s string) bool {
	for len(s) > 0 {
		c := int(s[0])
		size, n := 1, c
		switch {
		case c >= 0xf0:
			size, n = 4, c&7
		case c >= 0xe0:
			size, n = 3, c&15
		case c >= 0xc0:
			size, n = 2, c&31
		}
		if len(s) < size {
			return false
		}
		for i := 1; i < size; i++ {
			n = n<<6 | int(s[i])&0x3f
		}
		if !isSign(n) || signText(n) != s[:size] {
			return false
		}
		s = s[size:]
	}
	return true
}

func TestSignsOkByRule(t *testing.T) {
	edges := "\x00\x7f\x80\x8f\x90\x9f\xa0\xbf\xc0\xc1\xc2\xdf\xe0\xe1\xec\xed\xee\xef\xf0\xf1\xf3\xf4\xf5\xf8\xff"
	for _, s := range append(textsOf(allBytes(), 2), textsOf(edges, 4)...) {
		if got, want := impl.SignsOk(s), signsByRule(s); got != want {
			t.Fatalf("SignsOk(%q) = %v", s, got)
		}
	}
	for _, s := range []string{"", "\x00", "\ufffd", "a\u20ac\U0010ffff\x00", "\x7f\u0080\u07ff\u0800\uffff\U00010000"} {
		if !impl.SignsOk(s) {
			t.Errorf("SignsOk(%q) = false", s)
		}
	}
}

// nameText is PutName as the document words it, for valid UTF-8.
func nameText(s string) string {
	out, others := "", []rune{}
	for _, sign := range append([]rune(s), '&') {
		if sign < 32 || sign > 126 {
			others = append(others, sign)
			continue
		}
		if len(others) > 0 {
			units := []byte{}
			for _, unit := range utf16.Encode(others) {
				units = append(units, byte(unit>>8), byte(unit))
			}
			out += "&" + strings.ReplaceAll(base64.RawStdEncoding.EncodeToString(units), "/", ",") + "-"
			others = nil
		}
		out += strings.ReplaceAll(string(sign), "&", "&-")
	}
	return strings.TrimSuffix(out, "&-")
}

func checkName(t *testing.T, s string) {
	t.Helper()
	want := nameText(s)
	if got, ok := impl.PutName(s); !ok || got != want {
		t.Fatalf("PutName(%q) = %q, %v, want %q", s, got, ok, want)
	}
	if got, ok := impl.GetName(want); !ok || got != s {
		t.Fatalf("GetName(%q) = %q, %v, want %q", want, got, ok, s)
	}
}

func TestNameTexts(t *testing.T) {
	for _, x := range [][2]string{
		{"", ""}, {"INBOX", "INBOX"}, {" ~/.-+,{}\"\\%*", " ~/.-+,{}\"\\%*"}, {"&", "&-"}, {"&&", "&-&-"}, {"&-", "&--"},
		{"-", "-"}, {"a&b", "a&-b"}, {"caf\u00e9", "caf&AOk-"}, {"\u00e9\u00e9", "&AOkA6Q-"}, {"\u00e9-\u00e9", "&AOk--&AOk-"},
		{"\u00e9&\u00e9", "&AOk-&-&AOk-"}, {"\u00e9a\u00e9", "&AOk-a&AOk-"}, {"\x00", "&AAA-"}, {"\t", "&AAk-"}, {"\x1f", "&AB8-"},
		{"\x7f", "&AH8-"}, {"a\r\nb", "a&AA0ACg-b"}, {"\u53f0\u5317", "&U,BTFw-"}, {"\u65e5\u672c\u8a9e", "&ZeVnLIqe-"},
		{"\U0001f600", "&2D3eAA-"}, {"\U00010000", "&2ADcAA-"}, {"\U0010ffff", "&2,,f,w-"}, {"\uffff", "&,,8-"},
		{"\ufffd", "&,,0-"}, {"\ud7ff\ue000", "&1,,gAA-"}, {"\u00e9\U0001f600\u00e9", "&AOnYPd4AAOk-"},
		{"~peter/mail/\u53f0\u5317/\u65e5\u672c\u8a9e", "~peter/mail/&U,BTFw-/&ZeVnLIqe-"},
	} {
		if got, ok := impl.PutName(x[0]); !ok || got != x[1] {
			t.Errorf("PutName(%q) = %q, %v, want %q", x[0], got, ok, x[1])
		}
		if got, ok := impl.GetName(x[1]); !ok || got != x[0] {
			t.Errorf("GetName(%q) = %q, %v, want %q", x[1], got, ok, x[0])
		}
	}
}

func TestNameRecoversEverySign(t *testing.T) {
	for n := range 1114112 {
		if isSign(n) {
			checkName(t, signText(n))
		}
	}
	for _, s := range textsOf(" ~&-,/aA\u00e9", 5) {
		if impl.SignsOk(s) {
			checkName(t, s)
		}
	}
}

func TestNameRecoversSequences(t *testing.T) {
	signs := []string{"", "a", "&", "-", "/", " ", "~", "\x00", "\x1f", "\x7f", "\u0080", "\u07ff", "\ud7ff", "\ue000", "\ufffd", "\uffff", "\U00010000", "\U0001f600", "\U0010ffff"}
	for _, a := range signs {
		for _, b := range signs {
			for _, c := range signs {
				for _, d := range signs {
					checkName(t, a+b+c+d)
				}
			}
		}
	}
}

func checkNoName(t *testing.T, s string) {
	t.Helper()
	if got, ok := impl.GetName(s); ok || got != "" {
		t.Errorf("GetName(%q) = %q, %v, want none", s, got, ok)
	}
}

func TestGetNameRejectsShifts(t *testing.T) {
	for _, s := range []string{
		// not ended
		"&", "a&", "&-&", "&&", "&a", "&AOk", "a&AOk", "&AOk-&", "&AOl-x&", "&AOk-&AOk", "&AOk b", "&AOk&",
		// an ampersand within a shift
		"&&-", "&&--", "&AOk&-", "&AOk&AOk-", "&-&&-",
		// two in a row
		"&AOk-&AOk-", "a&AOk-&AOk-b", "&AOk-&2D3eAA-", "&2D3eAA-&AOk-", "&AAA-&AAA-", "&2D0-&3gA-",
		// plain bytes within a shift
		"&AGE-", "&ACA-", "&AH4-", "&ACY-", "&AC0-", "&AOkAYQ-", "&AGEA6Q-", "&AOkAYQDp-", "&AGEAYQ-",
		// half a pair
		"&2D0-", "&2AA-", "&2,8-", "&3AA-", "&3gA-", "&3,8-", "&3gDYPQ-", "&2D3YPd4A-", "&2D3eAN4A-", "&2D0A6Q-", "&AOnYPQ-",
		"&2D0AYQ-", "&2D3gAA-", "&3gAA6Q-", "&2D3,,w-", "&2D3b,w-",
		// the other sign for 63
		"&U/BTFw-", "&,/8-", "&//8-", "&/,8-", "&2//f/w-",
		// bytes missing, left over, bits that are not 0
		"&A-", "&AA-", "&AAAA-", "&AOkA-", "&AOkAAAA-", "&AOl-", "&AOm-", "&AOkA6R-", "&2D3eAB-", "&2D3eA-", "&2D3e-", "&2D3eAAA-",
		// padding and bytes outside the alphabet
		"&AOk=-", "&AOkA6Q==-", "&=-", "&AO k-", "& -", "&AOk -", "&AO_k-", "&AO.k-", "&A\x00Ok-", "&AOk\r\n-", "&\u00e9-",
		// bytes that must be shifted
		"\u00e9", "a\tb", "\x00", "\x1f", "\x7f", "\r\n", "\u0080", "\ufffd", "\U0001f600", "&AOk-\u00e9", "\u00e9&AOk-", "&-\t",
		"\xff", "a\x80", "\xc3&AOk-", "&AOk-\xa9", "\xc3a\xa9",
	} {
		checkNoName(t, s)
	}
	for _, n := range []int{-1, 0, 1, 2} {
		long := strings.Repeat("AOkA6QDp", 500)
		got, ok := impl.GetName("&" + (long + "AAA")[:len(long)+n] + "-")
		if want := strings.Repeat("\u00e9", 1500); n == 0 && (!ok || got != want) || n != 0 && (ok || got != "") {
			t.Errorf("GetName of a long shift and %d signs: %v", n, ok)
		}
	}
}

func TestGetNameOfEveryByte(t *testing.T) {
	for c := range 256 {
		s := string([]byte{byte(c)})
		got, ok := impl.GetName(s)
		if want := c >= 32 && c <= 126 && c != '&'; ok != want || ok && got != s || !ok && got != "" {
			t.Errorf("GetName(%q) = %q, %v", s, got, ok)
		}
		for _, inside := range []string{s + "AOk", "AO" + s + "k", "AOk" + s, s, s + s + s + s} {
			if strings.IndexByte(b64Signs+",-", byte(c)) < 0 {
				checkNoName(t, "&"+inside+"-")
			}
		}
	}
}

// TestGetNameOfEveryUnit shifts every single code unit and, for those at the edges, every pair of them.
func TestGetNameOfEveryUnit(t *testing.T) {
	shift := func(units ...uint16) string {
		b := []byte{}
		for _, unit := range units {
			b = append(b, byte(unit>>8), byte(unit))
		}
		return "&" + strings.ReplaceAll(base64.RawStdEncoding.EncodeToString(b), "/", ",") + "-"
	}
	for unit := range 0x10000 {
		if shifted := unit < 32 || unit > 126; isSign(unit) && shifted {
			checkName(t, signText(unit))
		} else {
			checkNoName(t, shift(uint16(unit)))
		}
	}
	edges := []uint16{0, 31, 32, 126, 127, 0xd7ff, 0xd800, 0xd801, 0xdbff, 0xdc00, 0xdc01, 0xdfff, 0xe000, 0xffff}
	for _, a := range edges {
		for _, b := range edges {
			for _, c := range edges {
				want := string(utf16.Decode([]uint16{a, b, c}))
				got, ok := impl.GetName(shift(a, b, c))
				if written := nameText(want) == shift(a, b, c); ok != written || ok && got != want || !ok && got != "" {
					t.Fatalf("GetName(%q) = %q, %v", shift(a, b, c), got, ok)
				}
			}
		}
	}
}

func TestGetNameAcceptsPutNameOnly(t *testing.T) {
	check := func(s string) {
		name, ok := impl.GetName(s)
		if again, fine := impl.PutName(name); ok && (!fine || again != s) || !ok && name != "" {
			t.Fatalf("GetName(%q) = %q, %v", s, name, ok)
		}
	}
	for _, s := range textsOf("&-Ag,/a\t", 6) {
		check(s)
	}
	for _, s := range []string{"a&AOkA6Q-b", "&2D3eAA-", "&AOk-&-&AOk-", "&U,BTFw-&--"} {
		for i := range len(s) {
			for c := range 256 {
				sign := string([]byte{byte(c)})
				check(s[:i] + sign + s[i+1:])
				check(s[:i] + sign + s[i:])
			}
			check(s[:i])
			check(s[:i] + s[i+1:])
		}
	}
}

// TestNameLeavesArguments calls every function of the chapter on odd and long texts and checks that they stay as they were.
func TestNameLeavesArguments(t *testing.T) {
	for _, s := range []string{
		"", allBytes(), "&" + allBytes() + "-", strings.Repeat("&", 200000), strings.Repeat("&-", 100000), strings.Repeat("&A", 100000),
		strings.Repeat("\u00e9a", 100000), strings.Repeat("\U0001f600", 50000), strings.Repeat("\xff", 200000), "&" + strings.Repeat("AOkA6QDp", 20000) + "-",
	} {
		kept := bytes.Clone([]byte(s))
		impl.PutB64(s)
		impl.GetB64(s)
		impl.SignsOk(s)
		impl.PutName(s)
		impl.GetName(s)
		if s != string(kept) {
			t.Fatal("an argument was modified")
		}
		if got, ok := impl.GetB64(impl.PutB64(s)); !ok || got != s {
			t.Fatalf("the base64 of %d bytes is not recovered", len(s))
		}
		if name, ok := impl.PutName(s); ok != impl.SignsOk(s) {
			t.Fatalf("PutName of %d bytes: %v", len(s), ok)
		} else if got, fine := impl.GetName(name); ok && (!fine || got != s) {
			t.Fatalf("the name of %d bytes is not recovered", len(s))
		}
	}
}
