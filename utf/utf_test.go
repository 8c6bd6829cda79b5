package utf

import (
	"bytes"
	"slices"
	"testing"
	"unicode/utf8"

	"stet/api"
)

// edges are code points at both sides of each bound that the document names.
var edges = []rune{
	-1 << 31, -55296, -1, 0, 1, 126, 127, 128, 129, 2046, 2047, 2048, 2049, 8364,
	55294, 55295, 55296, 55297, 57342, 57343, 57344, 57345, 65534, 65535, 65536,
	65537, 1114110, 1114111, 1114112, 1114113, 2097151, 2097152, 1<<31 - 1,
}

// P1.1
func TestRightAndLen(t *testing.T) {
	for _, r := range edges {
		checkRightAndLen(t, r)
	}
	for r := rune(-10); r < 1114130; r++ {
		checkRightAndLen(t, r)
	}
}

func checkRightAndLen(t *testing.T, r rune) {
	if Right(r) != utf8.ValidRune(r) {
		t.Fatalf("Right(%d) = %v", r, Right(r))
	}
	if want := max(utf8.RuneLen(r), 0); Len(r) != want {
		t.Fatalf("Len(%d) = %d, want %d", r, Len(r), want)
	}
}

// P1.1
func TestLenOfEach(t *testing.T) {
	want := map[rune]int{
		0: 1, 127: 1, 128: 2, 2047: 2, 2048: 3, 8364: 3, 55295: 3, 57344: 3, 65535: 3,
		65536: 4, 1114111: 4, -1: 0, 55296: 0, 57343: 0, 1114112: 0,
	}
	for r, n := range want {
		if Len(r) != n || Right(r) != (n > 0) {
			t.Errorf("%d: Len %d, want %d; Right %v", r, Len(r), n, Right(r))
		}
	}
}

// P1.1
func TestPut(t *testing.T) {
	for _, r := range edges {
		for _, b := range [][]byte{nil, {}, {'a'}, {0xff, 0x80}} {
			l, e := Put(b, r)
			if !utf8.ValidRune(r) {
				if l != nil || e != api.ErrUtf {
					t.Errorf("Put(%v, %d) = %v, %v", b, r, l, e)
				}
				continue
			}
			if want := append(slices.Clone(b), string(r)...); e != api.OK || !bytes.Equal(l, want) {
				t.Errorf("Put(%v, %d) = %v, %v, want %v", b, r, l, e, want)
			}
		}
	}
	if l, e := Put(nil, 8364); e != api.OK || !bytes.Equal(l, []byte{226, 130, 172}) {
		t.Error(l, e)
	}
}

// P1.1, P3: neither the bytes handed in nor the room behind them are written, and none of it is handed out.
func TestPutIsNew(t *testing.T) {
	room := []byte{'a', 'b', 'X', 'X', 'X', 'X', 'X', 'X'}
	for _, r := range []rune{'c', 233, 8364, 128512} {
		one, _ := Put(room[:2], r)
		two, _ := Put(room[:2], 'z')
		for i := range one {
			one[i] = '!'
		}
		if string(room) != "abXXXXXX" || string(two) != "abz" {
			t.Fatalf("Put(%d): room %q, another answer %q", r, room, two)
		}
	}
	one, _ := Put(nil, 'a')
	two, _ := Put(one, 'b')
	three, _ := Put(one, 'c')
	if string(one) != "a" || string(two) != "ab" || string(three) != "ac" {
		t.Fatalf("%q %q %q", one, two, three)
	}
}

// P1.2
func TestNextOutside(t *testing.T) {
	for _, b := range [][]byte{nil, {}, {'a'}, []byte("a\u20ac")} {
		for _, at := range []int{-1 << 63, -1, len(b), len(b) + 1, 1 << 31, 1<<63 - 1} {
			if r, n, e := Next(b, at); r != 0 || n != 0 || e != api.ErrRange {
				t.Errorf("Next(%v, %d) = %d, %d, %v", b, at, r, n, e)
			}
		}
	}
}

// P1.2
func TestNext(t *testing.T) {
	b := []byte("a\u00e9\u20ac\U0001f600")
	want := map[int]struct {
		r rune
		n int
	}{0: {'a', 1}, 1: {233, 2}, 3: {8364, 3}, 6: {128512, 4}}
	for at := range b {
		r, n, e := Next(b, at)
		w, begins := want[at]
		if begins && (r != w.r || n != w.n || e != api.OK) || !begins && (r != 0 || n != 0 || e != api.ErrUtf) {
			t.Errorf("Next at %d = %d, %d, %v", at, r, n, e)
		}
	}
}

// P1.2, P1.4: all rows of four bytes that begin differently, held against the library.
func TestNextAgainstLibrary(t *testing.T) {
	edge := []byte{0x7f, 0x80, 0xbf, 0xc0}
	for a := range 256 {
		for b := range 256 {
			for _, c := range edge {
				for _, d := range edge {
					row := []byte{byte(a), byte(b), c, d}
					for n := 1; n <= 4; n++ {
						checkNext(t, row[:n:n])
					}
				}
			}
		}
	}
}

func checkNext(t *testing.T, b []byte) {
	want, size := utf8.DecodeRune(b)
	wrong := want == utf8.RuneError && size == 1
	r, n, e := Next(b, 0)
	if wrong && (r != 0 || n != 0 || e != api.ErrUtf) || !wrong && (r != want || n != size || e != api.OK) {
		t.Fatalf("Next(%v, 0) = %d, %d, %v", b, r, n, e)
	}
}

// P1.2, P1.4: a letter has one form.
func TestNoOtherForm(t *testing.T) {
	for _, s := range []string{
		"\xc0\x80", "\xc1\xbf", "\xe0\x80\x80", "\xe0\x9f\xbf", "\xf0\x80\x80\x80", "\xf0\x8f\xbf\xbf",
		"\xed\xa0\x80", "\xed\xbf\xbf", "\xf4\x90\x80\x80", "\xf7\xbf\xbf\xbf", "\xf8\x88\x80\x80\x80", "\xfe", "\xff",
		"\x80", "\xbf", "\xc3", "\xc3a", "\xc3\xc3", "\xe2", "\xe2\x82", "\xe2\x82a", "\xf0\x9f\x98", "\xf0\x9f\x98a",
	} {
		if r, n, e := Next([]byte(s), 0); r != 0 || n != 0 || e != api.ErrUtf {
			t.Errorf("Next(%q, 0) = %d, %d, %v", s, r, n, e)
		}
		for _, ahead := range []string{"", "a", "\u20ac"} {
			b := []byte(ahead + s + "\xff")
			if l, at, e := Decode(b); l != nil || at != len(ahead) || e != api.ErrUtf {
				t.Errorf("Decode(%q) = %v, %d, %v", b, l, at, e)
			}
			if n, ok := Count(b); n != 0 || ok {
				t.Errorf("Count(%q) = %d, %v", b, n, ok)
			}
		}
	}
}

// P1.3, P1.4
func TestThereAndBack(t *testing.T) {
	var all []rune
	for r := range rune(1114112) {
		if utf8.ValidRune(r) {
			all = append(all, r)
		}
	}
	for _, l := range [][]rune{nil, {}, {0}, {'a', 0, 1114111}, all} {
		b, at, e := Encode(l)
		if e != api.OK || at != 0 || string(b) != string(l) {
			t.Fatalf("Encode of %d letters: %d bytes, %d, %v", len(l), len(b), at, e)
		}
		k, at, e := Decode(b)
		if e != api.OK || at != 0 || !slices.Equal(k, l) {
			t.Fatalf("Decode of %d bytes: %d letters, %d, %v", len(b), len(k), at, e)
		}
		if n, ok := Count(b); n != len(l) || !ok {
			t.Fatalf("Count of %d letters: %d, %v", len(l), n, ok)
		}
	}
}

// P1.3
func TestEncodeWrong(t *testing.T) {
	for _, r := range []rune{-1 << 31, -1, 55296, 57343, 1114112, 1<<31 - 1} {
		for _, l := range [][]rune{{r}, {r, -1}, {'a', 8364, r, 'b', -1}} {
			want := slices.Index(l, r)
			if b, at, e := Encode(l); b != nil || at != want || e != api.ErrUtf {
				t.Errorf("Encode(%v) = %v, %d, %v, want place %d", l, b, at, e, want)
			}
		}
	}
}

// P1, P2, P3, P6: rows of any bytes: no panic, what is handed in stays, and the same call answers the same.
func TestAnyBytes(t *testing.T) {
	seed := uint32(1)
	for range 20000 {
		room := make([]byte, 12)
		for i := range room {
			seed = seed*1664525 + 1013904223
			room[i] = byte(seed >> 24)
			if seed>>16&3 != 0 {
				room[i] |= 128
			}
		}
		was := string(room)
		b := room[:seed>>8%9]
		l, at, e := Decode(b)
		if k, again, f := Decode(b); !slices.Equal(k, l) || again != at || f != e || string(room) != was {
			t.Fatalf("Decode(%v): %v, %d, %v; then %v, %d, %v", b, l, at, e, k, again, f)
		}
		n, ok := Count(b)
		if (e == api.OK) != utf8.Valid(b) || ok != utf8.Valid(b) || n != len(l) {
			t.Fatalf("Decode(%v) = %v, %d, %v; Count %d, %v", b, l, at, e, n, ok)
		}
		if e == api.OK {
			if back, _, _ := Encode(l); at != 0 || !bytes.Equal(back, b) {
				t.Fatalf("Decode(%v): %v, encoded as %v", b, l, back)
			}
		} else if l != nil || !utf8.Valid(b[:at]) || Right(firstOf(b[at:])) {
			t.Fatalf("Decode(%v) = %v, %d, %v", b, l, at, e)
		}
	}
}

// firstOf is the letter with which bytes begin by the library; -1, if there is none.
func firstOf(b []byte) rune {
	r, n := utf8.DecodeRune(b)
	if n <= 1 && r == utf8.RuneError {
		return -1
	}
	return r
}

// P3: no two answers share their memory.
func TestAnswersAreNew(t *testing.T) {
	b := []byte("ab")
	one, _, _ := Decode(b)
	two, _, _ := Decode(b)
	one[0] = 'X'
	if string(two) != "ab" || string(b) != "ab" {
		t.Errorf("%q %q", string(two), b)
	}
	x, _, _ := Encode(two)
	y, _, _ := Encode(two)
	x[0] = 'X'
	if string(y) != "ab" || string(two) != "ab" {
		t.Errorf("%q %q", y, string(two))
	}
}
