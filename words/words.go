// Package words is layer 2: see shared/doc/02-words.md.
package words

import (
	"strconv"
	"strings"

	"stet/api"
)

// Split is a line's words.
func Split(line string) ([]string, api.Errno) {
	if line == "" {
		return nil, api.OK
	}
	var l []string
	begin := 0
	for i := range len(line) {
		if plain(line[i]) {
			continue
		}
		if line[i] != ' ' || i == begin {
			return nil, api.ErrForm
		}
		l = append(l, line[begin:i])
		begin = i + 1
	}
	if begin == len(line) {
		return nil, api.ErrForm
	}
	return append(l, line[begin:]), api.OK
}

// plain tells whether a byte may stand in a word.
func plain(c byte) bool { return c > ' ' && c != 127 }

// Join is words with blanks between.
func Join(l ...string) string { return strings.Join(l, " ") }

// Lines is a text's lines.
func Lines(text string) ([]string, int, api.Errno) {
	if len(text) > api.MaxText {
		return nil, 0, api.ErrLong
	}
	var l []string
	begin := 0
	for i := range len(text) {
		if text[i] == '\n' {
			l = append(l, text[begin:i])
			begin = i + 1
		}
	}
	if begin != len(text) {
		return nil, len(l) + 1, api.ErrForm
	}
	return l, 0, api.OK
}

// Num is a word's number.
func Num(w string) (int, bool) {
	n, err := strconv.Atoi(w)
	// Atoi reads more forms of a number than its word.
	if err != nil || Show(n) != w {
		return 0, false
	}
	return n, true
}

// Show is a number's word.
func Show(n int) string { return strconv.Itoa(n) }

// hidden has what the bytes up to the blank are hidden as.
var hidden = [33]string{
	"\\x00", "\\x01", "\\x02", "\\x03", "\\x04", "\\x05", "\\x06", "\\x07",
	"\\x08", "\\x09", "\\n", "\\x0b", "\\x0c", "\\x0d", "\\x0e", "\\x0f",
	"\\x10", "\\x11", "\\x12", "\\x13", "\\x14", "\\x15", "\\x16", "\\x17",
	"\\x18", "\\x19", "\\x1a", "\\x1b", "\\x1c", "\\x1d", "\\x1e", "\\x1f",
	"\\s",
}

// escape is what a byte is hidden as; empty, if it stands as it is.
func escape(c byte) string {
	switch {
	case int(c) < len(hidden):
		return hidden[c]
	case c == '\\':
		return "\\\\"
	case c == 127:
		return "\\x7f"
	}
	return ""
}

// Hide is bytes as a word's piece.
func Hide(b []byte) string {
	var s strings.Builder
	for i := range len(b) {
		if form := escape(b[i]); form != "" {
			s.WriteString(form)
		} else {
			s.WriteByte(b[i])
		}
	}
	return s.String()
}

// Bare is the bytes of a word's piece.
func Bare(w string) ([]byte, api.Errno) {
	var b []byte
	for at := 0; at < len(w); {
		c, n := first(w[at:])
		if n == 0 {
			return nil, api.ErrForm
		}
		b = append(b, c)
		at += n
	}
	return b, api.OK
}

// first is the byte with which a piece begins, and how many bytes of the piece it takes; 0, if it begins with none.
func first(w string) (byte, int) {
	if w[0] != '\\' {
		if plain(w[0]) {
			return w[0], 1
		}
		return 0, 0
	}
	c := named(w)
	// A byte is hidden in one way alone, so its form must be what stands here.
	if form := escape(c); form != "" && strings.HasPrefix(w, form) {
		return c, len(form)
	}
	return 0, 0
}

// named is the byte that may be hidden where a piece begins with \.
func named(w string) byte {
	if len(w) < 2 {
		return 0
	}
	switch w[1] {
	case 's':
		return ' '
	case 'n':
		return '\n'
	case 'x':
		if len(w) < 4 {
			return 0
		}
		return digit(w[2])<<4 | digit(w[3])
	}
	return w[1]
}

// digit is the value of one of the digits 0 to 9 and a to f; of others it is anything.
func digit(c byte) byte {
	if c >= 'a' {
		return (c - 'a' + 10) & 15
	}
	return (c - '0') & 15
}
