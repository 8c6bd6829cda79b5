package words

import (
	"bytes"
	"math"
	"slices"
	"strings"
	"testing"

	"stet/api"
)

// isPlain is the document's plain byte, told once more by itself.
func isPlain(c byte) bool { return 33 <= c && c <= 126 || c > 127 }

// P2.1
func TestSplit(t *testing.T) {
	for line, want := range map[string][]string{
		"":                  nil,
		"a":                 {"a"},
		"a b":               {"a", "b"},
		"ab c \xff\x80 \\s": {"ab", "c", "\xff\x80", "\\s"},
		"! ~ \x80":          {"!", "~", "\x80"},
		"node p : text*":    {"node", "p", ":", "text*"},
	} {
		if l, e := Split(line); e != api.OK || !slices.Equal(l, want) {
			t.Errorf("Split(%q) = %q, %v", line, l, e)
		}
	}
	for _, line := range []string{" ", "  ", " a", "a ", "a  b", "a b ", " a b", "a\nb", "a\n", "a\tb", "a\x7fb", "\x00", "a \x1f", "\r"} {
		if l, e := Split(line); l != nil || e != api.ErrForm {
			t.Errorf("Split(%q) = %q, %v", line, l, e)
		}
	}
}

// P2.1: each byte alone, ahead of a word, in it, and behind it.
func TestSplitEachByte(t *testing.T) {
	for c := range 256 {
		s := string([]byte{byte(c)})
		for _, line := range []string{s, s + "a", "a" + s + "a", "a" + s, "a " + s, s + " a"} {
			l, e := Split(line)
			blank := line == "a a"
			if ok := isPlain(byte(c)) || blank; ok != (e == api.OK) || !ok && (l != nil || e != api.ErrForm) || ok && Join(l...) != line {
				t.Errorf("Split(%q) = %q, %v", line, l, e)
			}
		}
	}
}

// P2.1
func TestJoin(t *testing.T) {
	for want, l := range map[string][]string{
		"":         nil,
		"a":        {"a"},
		"a bc d":   {"a", "bc", "d"},
		" ":        {"", ""},
		"a  b \n ": {"a", "", "b", "\n", ""},
	} {
		if s := Join(l...); s != want {
			t.Errorf("Join(%q) = %q", l, s)
		}
	}
	if Join() != "" || Join("") != "" {
		t.Error("Join of nothing")
	}
}

// P2.1
func TestLines(t *testing.T) {
	for text, want := range map[string][]string{
		"":             nil,
		"\n":           {""},
		"a\n":          {"a"},
		"\n\n":         {"", ""},
		"a b\n\n c \n": {"a b", "", " c "},
		"\r\n\x00\n":   {"\r", "\x00"},
	} {
		if l, n, e := Lines(text); e != api.OK || n != 0 || !slices.Equal(l, want) {
			t.Errorf("Lines(%q) = %q, %d, %v", text, l, n, e)
		}
	}
	for text, want := range map[string]int{"a": 1, " ": 1, "\na": 2, "a\nb": 2, "a\n\nb": 3, "\n\n\n\x00": 4} {
		if l, n, e := Lines(text); l != nil || n != want || e != api.ErrForm {
			t.Errorf("Lines(%q) = %q, %d, %v, want %d", text, l, n, e, want)
		}
	}
}

// P2.1, P2: the length is looked at ahead of the end.
func TestLinesLong(t *testing.T) {
	full := strings.Repeat("\n", 65536)
	if l, n, e := Lines(full); e != api.OK || n != 0 || len(l) != 65536 {
		t.Error(len(l), n, e)
	}
	if l, n, e := Lines(strings.Repeat("a", 65535) + "\n"); e != api.OK || n != 0 || len(l) != 1 {
		t.Error(len(l), n, e)
	}
	if l, n, e := Lines(full[1:] + "a"); l != nil || n != 65536 || e != api.ErrForm {
		t.Error(len(l), n, e)
	}
	for _, text := range []string{full + "\n", full + "a", strings.Repeat("a", 65537), strings.Repeat("a\n", 100000)} {
		if l, n, e := Lines(text); l != nil || n != 0 || e != api.ErrLong {
			t.Error(len(text), len(l), n, e)
		}
	}
}

// P2.2, P5
func TestNum(t *testing.T) {
	for w, want := range map[string]int{
		"0": 0, "1": 1, "9": 9, "10": 10, "-1": -1, "-10": -10, "999": 999, "65536": 65536,
		"9223372036854775807": math.MaxInt64, "-9223372036854775808": math.MinInt64, "-9223372036854775807": -math.MaxInt64,
	} {
		if n, ok := Num(w); n != want || !ok {
			t.Errorf("Num(%q) = %d, %v", w, n, ok)
		}
	}
	for _, w := range []string{
		"", "-", "--1", "+1", "+0", "-0", "00", "01", "-01", "0x1", "1_0", "1.0", "1e3", " 1", "1 ", "1\n", "a", "1a", "\x00", "\xd9\xa1",
		"9223372036854775808", "-9223372036854775809", "18446744073709551616", "18446744073709551617", "-18446744073709551615",
		strings.Repeat("9", 1000), strings.Repeat("0", 1000), "0" + strings.Repeat("1", 5),
	} {
		if n, ok := Num(w); n != 0 || ok {
			t.Errorf("Num(%q) = %d, %v", w, n, ok)
		}
	}
}

// P2.2, P2.4
func TestShow(t *testing.T) {
	for n, want := range map[int]string{
		0: "0", 7: "7", -7: "-7", 10: "10", -120: "-120", 999: "999",
		math.MaxInt64: "9223372036854775807", math.MinInt64: "-9223372036854775808",
	} {
		if w := Show(n); w != want {
			t.Errorf("Show(%d) = %q", n, w)
		}
	}
	for n := 1; n != 0; n *= 3 {
		for _, m := range []int{n, -n, n - 1, n + 1} {
			if back, ok := Num(Show(m)); back != m || !ok {
				t.Fatalf("Num(Show(%d)) = %d, %v", m, back, ok)
			}
		}
		if n < 0 {
			break
		}
	}
}

// piece is what one byte is hidden as, told once more by itself.
func piece(c byte) string {
	const digits = "0123456789abcdef"
	switch {
	case c == '\\':
		return `\\`
	case c == ' ':
		return `\s`
	case c == 10:
		return `\n`
	case isPlain(c):
		return string([]byte{c})
	}
	return `\x` + string([]byte{digits[c/16], digits[c%16]})
}

// P2.3, P2.4
func TestHideAndBareEachByte(t *testing.T) {
	var all []byte
	want := ""
	for c := range 256 {
		b := []byte{byte(c)}
		all = append(all, b...)
		want += piece(byte(c))
		if s := Hide(b); s != piece(byte(c)) {
			t.Errorf("Hide(%v) = %q", b, s)
		}
		if back, e := Bare(piece(byte(c))); e != api.OK || !bytes.Equal(back, b) {
			t.Errorf("Bare(%q) = %v, %v", piece(byte(c)), back, e)
		}
	}
	if s := Hide(all); s != want {
		t.Errorf("Hide of all = %q", s)
	}
	if back, e := Bare(want); e != api.OK || !bytes.Equal(back, all) {
		t.Errorf("Bare of all = %v, %v", back, e)
	}
	if s := Hide([]byte("a \\")); s != `a\s\\` {
		t.Errorf("Hide = %q", s)
	}
}

// P2.3: nothing is the piece of nothing.
func TestHideAndBareNothing(t *testing.T) {
	if Hide(nil) != "" || Hide([]byte{}) != "" {
		t.Error("Hide of nothing")
	}
	if b, e := Bare(""); len(b) != 0 || e != api.OK {
		t.Error(b, e)
	}
}

// P2.3, P2.4: each row of \x and two bytes is a piece just if it is what its byte is hidden as.
func TestBareEachEscape(t *testing.T) {
	right := map[string]byte{}
	for c := range 256 {
		right[piece(byte(c))] = byte(c)
	}
	for a := range 256 {
		checkBare(t, right, string([]byte{'\\', byte(a)}))
		for b := range 256 {
			checkBare(t, right, string([]byte{'\\', 'x', byte(a), byte(b)}))
		}
	}
}

func checkBare(t *testing.T, right map[string]byte, w string) {
	c, ok := right[w]
	for _, text := range []string{w, "ab" + w} {
		b, e := Bare(text)
		if ok && (e != api.OK || b[len(b)-1] != c || Hide(b) != text) || !ok && (b != nil || e != api.ErrForm) {
			t.Fatalf("Bare(%q) = %v, %v", text, b, e)
		}
	}
}

// P2.3
func TestBareWrong(t *testing.T) {
	for _, w := range []string{
		`\`, `a\`, `\\\`, `\x`, `\x0`, `\x2`, `\xg0`, `\x0g`, `\x0A`, `\x0a`, `\x20`, `\x41`, `\x5c`, `\x80`, `\xff`, `\xF0`, `\X00`,
		`\a`, `\0`, `\S`, `\N`, `\ `, " ", "a b", "a\n", "\x00", "\x7f", "\t", "\\\x00", "\\\n", "\\x0\x00",
	} {
		if b, e := Bare(w); b != nil || e != api.ErrForm {
			t.Errorf("Bare(%q) = %v, %v", w, b, e)
		}
	}
}

// P2.4: of a few bytes put together in all ways, what is read was written so, and the other way.
func TestThereAndBack(t *testing.T) {
	const some = " a-0\n\\xs\x00\x7f\xff"
	rows := []string{""}
	for at := 0; at < len(rows); at++ {
		s := rows[at]
		if len(s) < 4 {
			for i := range len(some) {
				rows = append(rows, s+some[i:i+1])
			}
		}
		if l, e := Split(s); e == api.OK && Join(l...) != s {
			t.Fatalf("Split(%q) = %q", s, l)
		}
		if l, _, e := Lines(s); e == api.OK && s != "" && strings.Join(l, "\n")+"\n" != s {
			t.Fatalf("Lines(%q) = %q", s, l)
		}
		if n, ok := Num(s); ok && Show(n) != s {
			t.Fatalf("Num(%q) = %d", s, n)
		}
		if b, e := Bare(s); e == api.OK && Hide(b) != s {
			t.Fatalf("Bare(%q) = %q", s, b)
		}
		if b, e := Bare(Hide([]byte(s))); e != api.OK || string(b) != s {
			t.Fatalf("Bare(Hide(%q)) = %q, %v", s, b, e)
		}
		if s == "" {
			continue
		}
		if l, e := Split(Join(Hide([]byte(s)), "x", Hide([]byte(s)))); e != api.OK || len(l) != 3 || l[0] != l[2] {
			t.Fatalf("%q hidden isn't a word: %q, %v", s, l, e)
		}
	}
}

// P3: what is handed in stays as it is, spare room too, and answers share nothing.
func TestNothingShared(t *testing.T) {
	list := []string{"a", "b", "X"}
	Join(list[:2]...)
	if list[2] != "X" || list[0] != "a" {
		t.Error(list)
	}
	room := []byte("a X")
	Hide(room[:2])
	if string(room) != "a X" {
		t.Errorf("%q", room)
	}
	one, _ := Bare("ab")
	two, _ := Bare("ab")
	one[0] = 'X'
	if string(two) != "ab" {
		t.Errorf("%q", two)
	}
	k, _ := Split("a b")
	l, _ := Split("a b")
	k[0] = "X"
	if l[0] != "a" {
		t.Error(l)
	}
	k, _, _ = Lines("a\nb\n")
	l, _, _ = Lines("a\nb\n")
	k[0] = "X"
	if l[0] != "a" {
		t.Error(l)
	}
}
