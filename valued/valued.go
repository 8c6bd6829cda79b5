// Package valued reads and shows names that may have a number: of marks their values, of nodes their attributes.
package valued

import (
	"strings"

	"stet/api"
	"stet/words"
)

// ahead stands ahead of a number.
const ahead = "="

// Show is a name, and its number, if that isn't 0.
func Show(name string, n int) string {
	if n == 0 {
		return name
	}
	return name + ahead + words.Show(n)
}

// Read is the name and the number of a text; false, if it has another form.
func Read(w string) (string, int, bool) {
	name, rest, told := strings.Cut(w, ahead)
	n, ok := words.Num(rest)
	if !isName(name) || told && (!ok || n < 1 || n > api.MaxValue) {
		return "", 0, false
	}
	return name, n, true
}

// isName tells whether a text is a name.
func isName(w string) bool {
	if w == "" || len(w) > api.MaxName {
		return false
	}
	for i, c := range w {
		letter, digit := c >= 'a' && c <= 'z', c >= '0' && c <= '9'
		if !letter && (!digit || i == 0) {
			return false
		}
	}
	return true
}
