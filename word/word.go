// Package word has what the texts of configs and commands have in common: words, names and numbers: see shared/doc/09-conf.md and shared/doc/10-cmd.md.
package word

import (
	"strconv"
	"strings"
)

const (
	// mostName is how many bytes a name has at most.
	mostName = 16
	// mostDigits is how many digits a number has at most.
	mostDigits = 7
	// digits are those of a number, and nameBytes those that may stand in a name.
	digits    = "0123456789"
	nameBytes = "abcdefghijklmnopqrstuvwxyz-_" + digits
)

// Split are a text's words, between which blanks stand.
func Split(s string) []string {
	return strings.FieldsFunc(s, func(c rune) bool { return c == ' ' || c == '\t' })
}

// IsName tells whether a word is a name.
func IsName(s string) bool { return isOf(s, mostName, nameBytes) }

// Number is the number that a word tells, and whether it tells one.
func Number(s string) (int, bool) {
	if !isOf(s, mostDigits, digits) {
		return 0, false
	}
	n, err := strconv.Atoi(s)
	return n, err == nil
}

// isOf tells whether a text has at least one byte, no more than so many, and all of them are among some.
func isOf(s string, longest int, bytes string) bool {
	return s != "" && len(s) <= longest && strings.Trim(s, bytes) == ""
}
