package wal

import (
	"strconv"
	"strings"
)

const (
	maxName   = 32     // bytes of a log's name, at most
	maxNumber = 999999 // of a segment
	digits    = 6      // of a segment's number, at least
)

// Segment tells a segment's file.
func Segment(name string, n int) string {
	s := strconv.Itoa(n)
	return name + "-" + strings.Repeat("0", max(digits-len(s), 0)) + s
}

// numberOf tells which segment of a log a file is; false, if it is none. A file is one only if it is called
// just as Segment says: more noughts, or fewer, make another file.
func numberOf(name, file string) (int, bool) {
	n, err := strconv.Atoi(strings.TrimPrefix(file, name+"-"))
	if err != nil || !isNumber(n) || Segment(name, n) != file {
		return 0, false
	}
	return n, true
}

func isNumber(n int) bool { return 0 <= n && n <= maxNumber }

// isName tells whether a text is a log's name.
func isName(s string) bool {
	if len(s) < 1 || len(s) > maxName {
		return false
	}
	for i := range len(s) {
		if !ofName(s[i]) {
			return false
		}
	}
	return true
}

// ofName tells whether a log's name may have the byte c.
func ofName(c byte) bool {
	return 'a' <= c && c <= 'z' || '0' <= c && c <= '9'
}
