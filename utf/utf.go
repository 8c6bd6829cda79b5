// Package utf is layer 1: see shared/doc/01-utf.md.
package utf

import "stet/api"

// Right tells whether a code point is a letter.
func Right(r rune) bool {
	return r >= 0 && r <= 1114111 && (r < 55296 || r > 57343)
}

// Len is how many bytes a letter has.
func Len(r rune) int {
	n := 1
	switch {
	case !Right(r):
		return 0
	case r >= 65536:
		n++
		fallthrough
	case r >= 2048:
		n++
		fallthrough
	case r >= 128:
		n++
	}
	return n
}

// Put lays a letter behind bytes.
func Put(b []byte, r rune) ([]byte, api.Errno) {
	n := Len(r)
	if n == 0 {
		return nil, api.ErrUtf
	}
	// Room of its own: appending to b could write into its spare room.
	l := make([]byte, len(b), len(b)+n)
	copy(l, b)
	return lay(l, r), api.OK
}

// lay appends a letter's bytes.
func lay(b []byte, r rune) []byte {
	more := func(shift int) byte { return byte(128 | r>>shift&63) }
	switch Len(r) {
	case 1:
		return append(b, byte(r))
	case 2:
		return append(b, byte(192|r>>6), more(0))
	case 3:
		return append(b, byte(224|r>>12), more(6), more(0))
	case 4:
		return append(b, byte(240|r>>18), more(12), more(6), more(0))
	}
	return b
}

// Next is the letter at a place.
func Next(b []byte, at int) (rune, int, api.Errno) {
	if at < 0 || at >= len(b) {
		return 0, 0, api.ErrRange
	}
	continues := func(i int) bool { return i < len(b) && b[i]>>6 == 2 }
	r, n := head(b[at])
	for i := range n - 1 {
		next := at + 1 + i
		if !continues(next) {
			return 0, 0, api.ErrUtf
		}
		r = r<<6 | rune(b[next]&63)
	}
	// More bytes than the letter needs are another form of it, which isn't allowed; what is no letter needs none.
	if n == 0 || Len(r) != n {
		return 0, 0, api.ErrUtf
	}
	return r, n, api.OK
}

// head is what a first byte has of its letter, and how many bytes it asks for; 0, if it begins none.
func head(c byte) (rune, int) {
	switch {
	case c < 128:
		return rune(c), 1
	case c>>5 == 6:
		return rune(c & 31), 2
	case c>>4 == 14:
		return rune(c & 15), 3
	case c>>3 == 30:
		return rune(c & 7), 4
	}
	return 0, 0
}

// Decode is all letters of bytes.
func Decode(b []byte) ([]rune, int, api.Errno) {
	var l []rune
	at, e := walk(b, func(r rune) { l = append(l, r) })
	if e != api.OK {
		return nil, at, e
	}
	return l, 0, api.OK
}

// walk tells letter by letter, up to the first place at which there is none.
func walk(b []byte, tell func(r rune)) (int, api.Errno) {
	for at := 0; at < len(b); {
		r, n, e := Next(b, at)
		if e != api.OK {
			return at, e
		}
		tell(r)
		at += n
	}
	return 0, api.OK
}

// Encode is letters' bytes.
func Encode(l []rune) ([]byte, int, api.Errno) {
	var b []byte
	for i, r := range l {
		if !Right(r) {
			return nil, i, api.ErrUtf
		}
		b = lay(b, r)
	}
	return b, 0, api.OK
}

// Count is how many letters bytes have.
func Count(b []byte) (int, bool) {
	n := 0
	if _, e := walk(b, func(rune) { n++ }); e != api.OK {
		return 0, false
	}
	return n, true
}
