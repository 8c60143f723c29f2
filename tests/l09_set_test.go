package tests

import (
	"bytes"
	"math"
	"regexp"
	"slices"
	"strconv"
	"strings"
	"testing"

	"loop.example/g00785/impl"
)

// span makes a range from a to b.
func span(a int, b int) impl.Range { return impl.Range{A: a, B: b} }

// set makes a list of ranges from their numbers in turn.
func set(inTurn ...int) []impl.Range {
	var list []impl.Range
	for pair := range slices.Chunk(inTurn, 2) {
		list = append(list, span(pair[0], pair[1]))
	}
	return list
}

// isSet is SetOk as the document words it.
func isSet(list []impl.Range) bool {
	numbers := true
	for _, r := range list {
		for _, n := range []int{r.A, r.B} {
			numbers = numbers && 0 <= n && n <= 100000
		}
	}
	return numbers && 1 <= len(list) && len(list) <= 8
}

// setText is SetText as the document words it.
func setText(list []impl.Range) string {
	if !isSet(list) {
		return ""
	}
	text := ""
	for _, r := range list {
		text += "," + strconv.Itoa(r.A)
		if r.B != r.A {
			text += ":" + strconv.Itoa(r.B)
		}
	}
	// No number but 0 itself is written with a 0 at its beginning.
	return regexp.MustCompile(`\b0`).ReplaceAllString(text[1:], "*")
}

var elementForm = regexp.MustCompile(`^(\*|[1-9][0-9]{0,4}|100000)(?::(\*|[1-9][0-9]{0,4}|100000))?$`)

// setOf is ReadSet as the document words it.
func setOf(s string) ([]impl.Range, bool) {
	var list []impl.Range
	for _, element := range strings.Split(s, ",") {
		found := elementForm.FindStringSubmatch(element)
		if found == nil {
			return nil, false
		}
		if found[2] == "" {
			found[2] = found[1]
		}
		// A star is no number, and so gives 0.
		a, _ := strconv.Atoi(found[1])
		b, _ := strconv.Atoi(found[2])
		list = append(list, span(a, b))
	}
	if len(list) > 8 {
		return nil, false
	}
	return list, true
}

// setHas is SetHas as the document words it: of a number between two others and these, it is the middle one.
func setHas(list []impl.Range, n int, most int) bool {
	for _, r := range list {
		three := []int{r.A, n, r.B}
		if r.A == 0 {
			three[0] = most
		}
		if r.B == 0 {
			three[2] = most
		}
		slices.Sort(three)
		if three[1] == n && n >= 1 {
			return true
		}
	}
	return false
}

// picked is Pick as the document words it.
func picked(list []impl.Range, nums []int) []int {
	var out []int
	for _, n := range nums {
		if setHas(list, n, slices.Max(nums)) {
			out = append(out, n)
		}
	}
	return out
}

// backward returns the set with every range written the other way.
func backward(list []impl.Range) []impl.Range {
	var out []impl.Range
	for _, r := range list {
		out = append(out, span(r.B, r.A))
	}
	return out
}

// checkSet has a set be one, be written as a text and be read from it.
func checkSet(t *testing.T, list []impl.Range, text string) {
	t.Helper()
	if !impl.SetOk(list) {
		t.Errorf("SetOk(%v) is false", list)
	}
	if got := impl.SetText(list); got != text {
		t.Errorf("SetText(%v) = %q, want %q", list, got, text)
	}
	checkRead(t, text, list...)
}

// checkNoSet has a list be no set and have no text.
func checkNoSet(t *testing.T, list []impl.Range) {
	t.Helper()
	if impl.SetOk(list) {
		t.Errorf("SetOk(%v) is true", list)
	}
	if got := impl.SetText(list); got != "" {
		t.Errorf("SetText(%v) = %q", list, got)
	}
}

func checkRead(t *testing.T, s string, want ...impl.Range) {
	t.Helper()
	if got, ok := impl.ReadSet(s); !ok || !slices.Equal(got, want) {
		t.Errorf("ReadSet(%q) = %v, %v, want %v", s, got, ok, want)
	}
}

func checkNotRead(t *testing.T, s string) {
	t.Helper()
	if got, ok := impl.ReadSet(s); ok || len(got) != 0 {
		t.Errorf("ReadSet(%.100q) = %v, %v", s, got, ok)
	}
}

func TestSetsAndTheirTexts(t *testing.T) {
	checkSet(t, set(1, 1), "1")
	checkSet(t, set(1, 2), "1:2")
	checkSet(t, set(2, 1), "2:1")
	checkSet(t, set(7, 7, 7, 7), "7,7")
	checkSet(t, set(0, 0), "*")
	checkSet(t, set(0, 5), "*:5")
	checkSet(t, set(5, 0), "5:*")
	checkSet(t, set(0, 0, 0, 0), "*,*")
	checkSet(t, set(10, 100, 100, 10), "10:100,100:10")
	checkSet(t, set(100000, 100000), "100000")
	checkSet(t, set(1, 100000), "1:100000")
	checkSet(t, set(100000, 1), "100000:1")
	checkSet(t, set(100000, 0), "100000:*")
	checkSet(t, set(0, 100000), "*:100000")
	checkSet(t, set(99999, 99999, 2, 4, 0, 0, 9, 0, 3, 1), "99999,2:4,*,9:*,3:1")
	checkSet(t, set(5, 5, 1, 9, 5, 5), "5,1:9,5")
}

func TestSetLength(t *testing.T) {
	checkNoSet(t, nil)
	checkNoSet(t, []impl.Range{})
	checkNoSet(t, make([]impl.Range, 0, 8))
	for length := 1; length <= 20; length++ {
		stars := make([]impl.Range, length)
		mixed := slices.Repeat(set(3, 1), length)
		if length <= 8 {
			checkSet(t, stars, strings.Repeat("*,", length-1)+"*")
			checkSet(t, mixed, strings.Repeat("3:1,", length-1)+"3:1")
			continue
		}
		checkNoSet(t, stars)
		checkNoSet(t, mixed)
		checkNotRead(t, strings.Repeat("*,", length-1)+"*")
		checkNotRead(t, strings.Repeat("3:1,", length-1)+"3:1")
	}
	checkNoSet(t, make([]impl.Range, 100000))
}

// TestSetNumbers has numbers of all kinds as A and as B, in every place of sets of every length.
func TestSetNumbers(t *testing.T) {
	texts := map[int]string{0: "*", 1: "1", 99999: "99999", 100000: "100000"}
	for _, n := range []int{math.MinInt, -100000, -2, -1, 0, 1, 99999, 100000, 100001, 999999999, 1000000000, math.MaxInt} {
		for length := 1; length <= 8; length++ {
			for at := range length {
				for _, r := range []impl.Range{span(n, 2), span(2, n), span(n, n)} {
					list := slices.Repeat(set(2, 2), length)
					list[at] = r
					text, there := texts[n]
					if !there {
						checkNoSet(t, list)
						continue
					}
					elements := slices.Repeat([]string{"2"}, length)
					elements[at] = map[impl.Range]string{span(n, 2): text + ":2", span(2, n): "2:" + text, span(n, n): text}[r]
					checkSet(t, list, strings.Join(elements, ","))
				}
			}
		}
	}
	checkNoSet(t, set(-1, 100001))
	checkNoSet(t, set(100001, -1))
}

func TestReadSet(t *testing.T) {
	checkRead(t, "1", span(1, 1))
	checkRead(t, "*", span(0, 0))
	checkRead(t, "1:2", span(1, 2))
	checkRead(t, "2:1", span(2, 1))
	checkRead(t, "2:2", span(2, 2))
	checkRead(t, "*:*", span(0, 0))
	checkRead(t, "*:2", span(0, 2))
	checkRead(t, "2:*", span(2, 0))
	checkRead(t, "100000:100000", span(100000, 100000))
	checkRead(t, "2,2:2,2", set(2, 2, 2, 2, 2, 2)...)
	checkRead(t, "9,1:3,*,8:*,*:7,3:1", set(9, 9, 1, 3, 0, 0, 8, 0, 0, 7, 3, 1)...)
	checkRead(t, "1,2,3,4,5,6,7,8", set(1, 1, 2, 2, 3, 3, 4, 4, 5, 5, 6, 6, 7, 7, 8, 8)...)
	checkRead(t, "1:1,2:2,3:3,4:4,5:5,6:6,7:7,*:*", set(1, 1, 2, 2, 3, 3, 4, 4, 5, 5, 6, 6, 7, 7, 0, 0)...)
}

func TestReadSetOfNoSet(t *testing.T) {
	for _, s := range []string{
		"0", "00", "01", "010", "0000001", "-1", "-0", "+1", "+0", "100001", "999999999", "1000000000", "18446744073709551617", strings.Repeat("9", 5000), "1.0", "1e3", "0x1", "1_0", "x", "NIL", "\u0661", "\xff", "\x00", "1\x00",
		"**", "*1", "1*", "-*", "+*", "0*", "(1)", "\"1\"", "{1}",
	} {
		for _, form := range []string{"NO", "NO:1", "1:NO", "NO:NO", "NO:*", "*:NO", "NO,1", "1,NO", "1,NO,1", "1:2,3:NO", "NO:3,1:2"} {
			checkNotRead(t, strings.ReplaceAll(form, "NO", s))
		}
	}
	for _, s := range []string{
		"", ",", ",,", ":", "::", ":,", ",:", ",1", "1,", "1,,2", ",1,2", "1,2,", "1,,", ",*", "*,", "*,,*", ":1", "1:", ":*", "*:", "1::2", "*::*", "1:2:3", "1:2:", ":1:2", "1:*:3", "*:*:*", "1:1:1", "1:,2", "1,:2", "1:2,:", "1:2,", ",1:2",
		" ", " 1", "1 ", "1 2", "1, 2", "1 ,2", "1 :2", "1: 2", " *", "* ", "\t1", "1\t", "1\r\n", "\r\n1", "1\n", "1;2", "1-2", "1/2", "1..2", "1.2", "1,2,3,4,5,6,7,8,", ",1,2,3,4,5,6,7,8", "1,2,3,4,5,6,7,8,9", "1,2,3,4,5,6,7,8,x", "1,2,3,4,5,6,7,0",
	} {
		checkNotRead(t, s)
	}
}

func TestReadSetByRule(t *testing.T) {
	check := func(s string) {
		t.Helper()
		got, ok := impl.ReadSet(s)
		want, there := setOf(s)
		if ok != there || !slices.Equal(got, want) {
			t.Fatalf("ReadSet(%q) = %v, %v, want %v, %v", s, got, ok, want, there)
		}
		if ok && !impl.SetOk(got) {
			t.Fatalf("ReadSet(%q) = %v is no set", s, got)
		}
	}
	for _, s := range textsOf("01*:,", 7) {
		check(s)
	}
	tokens := []string{"1", "20", "100000", "100001", "0", "*", ":", ",", " ", "-", "+", "x"}
	for _, code := range textsOf("\x00\x01\x02\x03\x04\x05\x06\x07\x08\x09\x0a\x0b", 4) {
		s := ""
		for i := range len(code) {
			s += tokens[code[i]]
		}
		check(s)
	}
	for _, c := range []byte(allBytes()) {
		b := string([]byte{c})
		for _, s := range []string{b, b + "1", "1" + b, "1" + b + "2", "1:" + b, b + ":1", "1:2" + b + "3:4", "1," + b, b + ",1", "*" + b, b + "*"} {
			check(s)
		}
	}
	for n := range 2000 {
		for _, near := range []int{n, 99000 + n, 999999000 + n} {
			check(strconv.Itoa(near))
			check("*:" + strconv.Itoa(near))
			check(strconv.Itoa(near) + ":1")
		}
	}
}

// someNumbers may stand in a range.
var someNumbers = []int{0, 1, 2, 9, 10, 11, 100, 99999, 100000}

// someRanges returns all ranges of two of the numbers.
func someRanges(numbers []int) []impl.Range {
	var list []impl.Range
	for _, a := range numbers {
		for _, b := range numbers {
			list = append(list, span(a, b))
		}
	}
	return list
}

func TestSetIsRecovered(t *testing.T) {
	ranges := someRanges(someNumbers)
	for i, first := range ranges {
		checkSet(t, []impl.Range{first}, setText([]impl.Range{first}))
		for _, second := range ranges {
			list := []impl.Range{first, second}
			checkSet(t, list, setText(list))
		}
		for length := 3; length <= 8; length++ {
			var list []impl.Range
			for k := range length {
				list = append(list, ranges[(i+k*k*7)%len(ranges)])
			}
			checkSet(t, list, setText(list))
		}
	}
}

// TestSetReadAgain writes whatever ReadSet reads: it reads the same again.
func TestSetReadAgain(t *testing.T) {
	for _, s := range append(textsOf("12*:,", 6), "2:2", "*:*", "1:1,*:*,5:3", "*:100000,100000:*", "1,2,3,4,5,6,7,8:8") {
		list, ok := impl.ReadSet(s)
		if !ok {
			continue
		}
		text := impl.SetText(list)
		again, ok := impl.ReadSet(text)
		if !ok || !slices.Equal(again, list) || impl.SetText(again) != text || len(text) > len(s) {
			t.Fatalf("ReadSet(%q) = %v, written %q, read again %v, %v", s, list, text, again, ok)
		}
	}
	checkSet(t, set(2, 2, 0, 0, 2, 2), "2,*,2")
	checkRead(t, "2:2,*:*,2", set(2, 2, 0, 0, 2, 2)...)
}

// checkHas compares the numbers from -2 to 12 that a set has with those wanted.
func checkHas(t *testing.T, list []impl.Range, most int, want ...int) {
	t.Helper()
	var got []int
	for n := -2; n <= 12; n++ {
		if impl.SetHas(list, n, most) {
			got = append(got, n)
		}
	}
	if !slices.Equal(got, want) {
		t.Errorf("of %v with %d as the greatest: %v, want %v", list, most, got, want)
	}
}

func TestSetHas(t *testing.T) {
	for _, most := range []int{math.MinInt, -1, 0, 1, 2, 3, 4, 5, 6, 9, 100001, math.MaxInt} {
		checkHas(t, set(3, 5), most, 3, 4, 5)
		checkHas(t, set(5, 3), most, 3, 4, 5)
		checkHas(t, set(4, 4), most, 4)
		checkHas(t, set(1, 1), most, 1)
		checkHas(t, set(1, 100000), most, 1, 2, 3, 4, 5, 6, 7, 8, 9, 10, 11, 12)
		checkHas(t, set(1, 2, 5, 4, 8, 8), most, 1, 2, 4, 5, 8)
		checkHas(t, set(5, 2, 3, 6, 4, 4), most, 2, 3, 4, 5, 6)
		checkHas(t, set(8, 8, 1, 1), most, 1, 8)
		checkHas(t, nil, most)
		checkHas(t, []impl.Range{}, most)
	}
}

func TestSetHasWithStar(t *testing.T) {
	for _, list := range [][]impl.Range{set(4, 0), set(0, 4)} {
		checkHas(t, list, 7, 4, 5, 6, 7)
		checkHas(t, list, 5, 4, 5)
		checkHas(t, list, 4, 4)
		checkHas(t, list, 3, 3, 4)
		checkHas(t, list, 1, 1, 2, 3, 4)
		checkHas(t, list, 0, 1, 2, 3, 4)
		checkHas(t, list, -9, 1, 2, 3, 4)
		checkHas(t, list, math.MinInt, 1, 2, 3, 4)
		checkHas(t, list, 100000, 4, 5, 6, 7, 8, 9, 10, 11, 12)
		checkHas(t, list, math.MaxInt, 4, 5, 6, 7, 8, 9, 10, 11, 12)
	}
	for most := 1; most <= 12; most++ {
		checkHas(t, set(0, 0), most, most)
	}
	for _, most := range []int{math.MinInt, -1, 0, 13, math.MaxInt} {
		checkHas(t, set(0, 0), most)
	}
	checkHas(t, set(0, 0, 2, 2, 0, 4), 5, 2, 4, 5)
	checkHas(t, set(3, 1, 9, 0), 6, 1, 2, 3, 6, 7, 8, 9)
	checkHas(t, set(3, 1, 9, 0), 11, 1, 2, 3, 9, 10, 11)
}

// TestSetHasGreatNumbers has numbers and a greatest one that no range may contain itself.
func TestSetHasGreatNumbers(t *testing.T) {
	for _, x := range []struct {
		r       impl.Range
		n, most int
		has     bool
	}{
		{span(1, 100000), 100000, 5, true}, {span(100000, 1), 100000, 5, true}, {span(1, 100000), 100001, 999999, false}, {span(1, 100000), math.MaxInt, math.MaxInt, false}, {span(1, 100000), math.MinInt, 1, false},
		{span(7, 0), 100001, 100001, true}, {span(7, 0), 100002, 100001, false}, {span(0, 7), math.MaxInt, math.MaxInt, true}, {span(0, 7), math.MaxInt, math.MaxInt - 1, false}, {span(0, 0), math.MaxInt, math.MaxInt, true},
		{span(0, 0), math.MinInt, math.MinInt, false}, {span(0, 0), -1, -1, false}, {span(0, 0), 0, 0, false}, {span(0, 7), math.MinInt, math.MinInt, false}, {span(0, 7), 0, math.MinInt, false}, {span(7, 0), -3, -5, false},
	} {
		if got := impl.SetHas([]impl.Range{x.r}, x.n, x.most); got != x.has {
			t.Errorf("SetHas(%v, %d, %d) = %v", x.r, x.n, x.most, got)
		}
	}
}

// TestSetHasOfNoSet has lists that are no sets: their ranges count as they stand.
func TestSetHasOfNoSet(t *testing.T) {
	checkHas(t, set(-1, 2), 5, 1, 2)
	checkHas(t, set(2, -1), 5, 1, 2)
	checkHas(t, set(-1, 0), 3, 1, 2, 3)
	checkHas(t, set(-2, -1), 5)
	checkHas(t, set(11, 100001), 5, 11, 12)
	checkHas(t, set(math.MaxInt, 11), 5, 11, 12)
	checkHas(t, set(math.MinInt, math.MaxInt), 5, 1, 2, 3, 4, 5, 6, 7, 8, 9, 10, 11, 12)
	checkHas(t, append(slices.Repeat(set(2, 2), 8), span(7, 6)), 5, 2, 6, 7)
	checkHas(t, append(slices.Repeat(set(2, 2), 9999), span(7, 6)), 5, 2, 6, 7)
}

func TestSetHasByRule(t *testing.T) {
	ranges := someRanges([]int{-1, 0, 1, 2, 4, 6})
	for _, first := range ranges {
		for _, second := range ranges {
			list := []impl.Range{first, second}
			for n := -2; n <= 7; n++ {
				for most := -2; most <= 7; most++ {
					if got, want := impl.SetHas(list, n, most), setHas(list, n, most); got != want {
						t.Fatalf("SetHas(%v, %d, %d) = %v", list, n, most, got)
					}
				}
			}
		}
	}
}

// TestRangesWrittenBackward writes ranges the other way and in another order: the set has the same numbers.
func TestRangesWrittenBackward(t *testing.T) {
	nums := []int{9, 1, 3, 10, 2, 2, 0, 101, -1, 99999}
	ranges := someRanges(someNumbers)
	for i, first := range ranges {
		list := []impl.Range{first, ranges[(i*5+3)%len(ranges)], ranges[(i*11+8)%len(ranges)]}
		for to := 1; to <= len(list); to++ {
			forms := [][]impl.Range{backward(list[:to]), append(backward(list[:1]), list[1:to]...), slices.Clone(list[:to]), backward(list[:to])}
			slices.Reverse(forms[2])
			slices.Reverse(forms[3])
			for _, form := range forms {
				if got, want := impl.Pick(form, nums), impl.Pick(list[:to], nums); !slices.Equal(got, want) {
					t.Fatalf("Pick(%v, %v) = %v, of %v %v", form, nums, got, list[:to], want)
				}
				for _, n := range append(nums, someNumbers...) {
					for _, most := range []int{-1, 0, 1, 5, 10, 50, 100000, 100001} {
						if impl.SetHas(form, n, most) != impl.SetHas(list[:to], n, most) {
							t.Fatalf("SetHas(%v, %d, %d) is not that of %v", form, n, most, list[:to])
						}
					}
				}
			}
		}
	}
}

// TestSetHasWhatItsRangesHave divides sets into their ranges.
func TestSetHasWhatItsRangesHave(t *testing.T) {
	list := set(5, 3, 0, 0, 8, 8, 0, 10, 4, 6)
	for to := range len(list) + 1 {
		for n := -1; n <= 15; n++ {
			for most := -1; most <= 15; most++ {
				any := false
				for _, r := range list[:to] {
					any = any || impl.SetHas([]impl.Range{r}, n, most)
				}
				if impl.SetHas(list[:to], n, most) != any {
					t.Fatalf("SetHas(%v, %d, %d) = %v", list[:to], n, most, !any)
				}
			}
		}
	}
}

func checkPick(t *testing.T, list []impl.Range, nums []int, want ...int) {
	t.Helper()
	if got := impl.Pick(list, nums); !slices.Equal(got, want) {
		t.Errorf("Pick(%v, %v) = %v, want %v", list, nums, got, want)
	}
}

func TestPick(t *testing.T) {
	for _, list := range [][]impl.Range{set(1, 1), set(0, 0), set(1, 0), set(0, 100000), nil, {}} {
		checkPick(t, list, nil)
		checkPick(t, list, []int{})
	}
	checkPick(t, nil, []int{1, 2, 3})
	checkPick(t, set(2, 4), []int{1, 2, 3, 4, 5}, 2, 3, 4)
	checkPick(t, set(4, 2), []int{1, 2, 3, 4, 5}, 2, 3, 4)
	checkPick(t, set(4, 2), []int{5, 3, 1, 4, 2}, 3, 4, 2)
	checkPick(t, set(2, 4), []int{4, 2, 4, 2, 2, 7, 7}, 4, 2, 4, 2, 2)
	checkPick(t, set(5, 5, 1, 2), []int{1, 2, 3, 4, 5}, 1, 2, 5)
	checkPick(t, set(1, 4, 3, 6, 2, 5, 4, 4), []int{7, 6, 5, 4, 3, 2, 1}, 6, 5, 4, 3, 2, 1)
	checkPick(t, set(6, 9), []int{1, 2, 3})
	checkPick(t, set(1, 100000), []int{100001, 100000, 0, -1, 1, 0}, 100000, 1)
	checkPick(t, set(1, 100000), []int{0, -1, math.MinInt})
	checkPick(t, set(100000, 1), []int{math.MaxInt, math.MinInt})
}

func TestPickWithStar(t *testing.T) {
	checkPick(t, set(0, 0), []int{3, 7, 5}, 7)
	checkPick(t, set(0, 0), []int{7, 3, 7, 5, 7}, 7, 7, 7)
	checkPick(t, set(0, 0), []int{4}, 4)
	checkPick(t, set(0, 0), []int{100001, 1, math.MaxInt}, math.MaxInt)
	checkPick(t, set(0, 0), []int{0})
	checkPick(t, set(0, 0), []int{-4, -2, -3})
	checkPick(t, set(0, 0), []int{-4, 2, -3}, 2)
	for _, list := range [][]impl.Range{set(4, 0), set(0, 4)} {
		checkPick(t, list, []int{9, 3, 4, 7, 5, 1}, 9, 4, 7, 5)
		checkPick(t, list, []int{1, 2, 3}, 3)
		checkPick(t, list, []int{3, 1, 3, 2}, 3, 3)
		checkPick(t, list, []int{4, 4, 1}, 4, 4)
		checkPick(t, list, []int{1}, 1)
		checkPick(t, list, []int{0, -1})
		checkPick(t, list, []int{-1, 5, 0}, 5)
	}
	checkPick(t, set(0, 0, 1, 2), []int{2, 9, 1, 5}, 2, 9, 1)
	checkPick(t, set(8, 0, 0, 5), []int{1, 7, 3}, 7)
	checkPick(t, set(8, 0, 0, 5), []int{5, 6, 7, 8, 9}, 5, 6, 7, 8, 9)
}

func TestPickByRule(t *testing.T) {
	numbers := []int{-1, 0, 1, 2, 3, 5}
	var lists [][]impl.Range
	ranges := someRanges([]int{0, 1, 2, 4})
	for i, r := range ranges {
		lists = append(lists, []impl.Range{r}, []impl.Range{r, ranges[(i*5+2)%len(ranges)]})
	}
	for _, code := range textsOf("\x00\x01\x02\x03\x04\x05", 4) {
		var nums []int
		for i := range len(code) {
			nums = append(nums, numbers[code[i]])
		}
		for _, list := range lists {
			if got, want := impl.Pick(list, nums), picked(list, nums); !slices.Equal(got, want) {
				t.Fatalf("Pick(%v, %v) = %v, want %v", list, nums, got, want)
			}
		}
	}
}

// TestSetsLeaveArguments calls every function of the chapter with lists that have spare capacity and checks that they stay as they were and that no result is shared.
func TestSetsLeaveArguments(t *testing.T) {
	for _, list := range [][]impl.Range{{}, set(5, 3), set(0, 0, 9, 1, 2, 2), set(-1, 7), make([]impl.Range, 8), make([]impl.Range, 9)} {
		for _, nums := range [][]int{{}, {4}, {9, 3, 9, -1, 0, 5}, {math.MinInt, math.MaxInt}} {
			spareList := append(append(make([]impl.Range, 0, 30), list...), span(70, 71), span(1, 100000))
			spareNums := append(append(make([]int, 0, 30), nums...), 80, 3)
			keptList, keptNums := slices.Clone(spareList), slices.Clone(spareNums)
			given, numbers := spareList[:len(list)], spareNums[:len(nums)]
			ok, text := impl.SetOk(given), impl.SetText(given)
			got := impl.Pick(given, numbers)
			own := slices.Clone(got)
			if ok != isSet(list) || text != setText(list) || !slices.Equal(got, picked(list, nums)) || impl.SetHas(given, 80, 90) != setHas(list, 80, 90) {
				t.Fatalf("more than the lists is read of %v and %v", list, nums)
			}
			for i := range got {
				got[i] = 99
			}
			_ = append(got, 99, 99)
			if !slices.Equal(impl.Pick(given, numbers), own) {
				t.Fatalf("Pick(%v, %v) is not the same twice", list, nums)
			}
			if !slices.Equal(spareList, keptList) || !slices.Equal(spareNums, keptNums) {
				t.Fatal("an argument was modified")
			}
		}
	}
	list, _ := impl.ReadSet("1:2,*")
	list[0], list[1] = span(8, 8), span(9, 9)
	_ = append(list, span(7, 7))
	checkRead(t, "1:2,*", set(1, 2, 0, 0)...)
}

// TestSetsReturnForLongArguments has long texts and lists.
func TestSetsReturnForLongArguments(t *testing.T) {
	for _, s := range []string{
		allBytes(), xs(200000), strings.Repeat("1,", 100000), strings.Repeat("1,", 100000) + "1", strings.Repeat("*", 200000), strings.Repeat("*,", 100000) + "*", strings.Repeat(":", 200000), strings.Repeat("1:", 100000) + "1", strings.Repeat(",", 200000), strings.Repeat("9", 200000), "1:" + strings.Repeat("0", 200000), strings.Repeat(" ", 200000),
	} {
		kept := bytes.Clone([]byte(s))
		checkNotRead(t, s)
		if s != string(kept) {
			t.Fatal("an argument was modified")
		}
	}
	long := make([]impl.Range, 1000000)
	checkNoSet(t, long)
	if impl.SetHas(long, 5, 4) || !impl.SetHas(long, 4, 4) {
		t.Error("a long list of ranges")
	}
	nums := make([]int, 1000000)
	for i := range nums {
		nums[i] = i - 10
	}
	if got := impl.Pick(set(999000, 0, 3, 1), nums); len(got) != 993 || got[0] != 1 || got[3] != 999000 || got[992] != 999989 {
		t.Errorf("%d of many numbers", len(got))
	}
}
