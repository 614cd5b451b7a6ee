package wal

import (
	"strconv"
	"strings"
)

const (
	mostName   = 40       // bytes of a log's name
	digits     = 8        // of a segment's number
	lastNumber = 99999999 // of a segment
)

// What stands behind the dot in the names of a log's files that are no segments.
const (
	checkEnd = "check"
	newEnd   = "new"
)

func isLogName(s string) bool {
	if len(s) < 1 || len(s) > mostName {
		return false
	}
	for i := range len(s) {
		if !inLogName(s[i]) {
			return false
		}
	}
	return true
}

func inLogName(c byte) bool {
	switch {
	case c >= 'a' && c <= 'z', c >= 'A' && c <= 'Z', isDigit(c):
		return true
	}
	return c == '_' || c == '-'
}

func isDigit(c byte) bool {
	return c >= '0' && c <= '9'
}

func (l *Log) file(end string) string {
	return l.name + "." + end
}

// segment answers the name of the file of a number, which is from 1 to lastNumber.
func (l *Log) segment(number int) string {
	n := strconv.Itoa(number)
	return l.file(strings.Repeat("0", digits-len(n)) + n)
}

// numberOf answers the number of a segment of the log name; false, if file is none. Numbers begin with 1: a file of the number 0 is no segment.
func numberOf(name, file string) (int, bool) {
	end, ok := strings.CutPrefix(file, name+".")
	if !ok || len(end) != digits {
		return 0, false
	}
	number := 0
	for i := range len(end) {
		if !isDigit(end[i]) {
			return 0, false
		}
		number = 10*number + int(end[i]-'0')
	}
	return number, number > 0
}
