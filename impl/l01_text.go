package impl

import (
	"iter"
	"strconv"
	"strings"
)

const (
	maxDec  = 999999999
	lineEnd = "\r\n"
)

func DecText(n int) string {
	return strconv.Itoa(n)
}

func ReadDec(s string) int {
	n, err := strconv.Atoi(s)
	// Atoi also accepts a sign in front and leading zeros, which DecText never writes.
	if err != nil || n < 0 || n > maxDec || DecText(n) != s {
		return -1
	}
	return n
}

func Upper(s string) string {
	table := upperTable()
	out := []byte(s)
	for i, c := range out {
		out[i] = table[c]
	}
	return string(out)
}

// upperTable is built by a rule because a written-out table of all bytes would
// exceed what LANGUAGE.md allows at package level.
func upperTable() [256]byte {
	var table [256]byte
	for i := range table {
		table[i] = byte(i)
	}
	for c := 'a'; c <= 'z'; c++ {
		table[c] = byte(c - 'a' + 'A')
	}
	return table
}

func Same(a string, b string) bool {
	return Upper(a) == Upper(b)
}

func Trim(s string) string {
	return strings.Trim(s, " \t")
}

func Split(s string, by byte) []string {
	var list []string
	// string(by) would be the UTF-8 encoding of a code point, two bytes from 128 on.
	for piece := range pieces(s, string([]byte{by})) {
		list = append(list, piece)
	}
	return list
}

func Find(s string, t string) int {
	return strings.Index(s, t)
}

func CountLines(s string) int {
	count := 0
	last := ""
	for piece := range pieces(s, lineEnd) {
		count++
		last = piece
	}
	// The last piece has no CRLF after it: it is a line only if it has bytes.
	if last == "" {
		count--
	}
	return count
}

// pieces yields the parts of s between occurrences of mark, at least one. The
// mark must not be empty, or the pieces would never end.
func pieces(s string, mark string) iter.Seq[string] {
	return func(yield func(string) bool) {
		rest := s
		for at := Find(rest, mark); at >= 0; at = Find(rest, mark) {
			if !yield(rest[:at]) {
				return
			}
			rest = rest[at+len(mark):]
		}
		yield(rest)
	}
}
