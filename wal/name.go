package wal

import (
	"strconv"
	"strings"
)

// A log's file is called by its prefix and a number of eight digits.
const (
	prefix  = "log-"
	digits  = 8
	numbers = 100000000 // those with at most so many digits
)

// Name is a file's name.
func Name(n int) string {
	if n < 0 || n >= numbers {
		return ""
	}
	short := strconv.Itoa(n)
	return prefix + strings.Repeat("0", digits-len(short)) + short
}

// Number is the number of a file's name.
func Number(name string) (int, bool) {
	if len(name) != len(prefix)+digits {
		return 0, false
	}
	n, err := strconv.Atoi(name[len(prefix):])
	// What is read as a number may begin with a sign: then it has another name.
	if err != nil || Name(n) != name {
		return 0, false
	}
	return n, true
}
