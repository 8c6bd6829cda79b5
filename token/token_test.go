package token

import (
	"math/rand/v2"
	"regexp"
	"slices"
	"strconv"
	"strings"
	"testing"
	"unicode/utf8"

	"stet/api"
	"stet/marks"
	"stet/schema"
)

// lines are the schema that the tests know: doc is 1, p 2, h 3, hr 4, br 5, i 6.
const lines = "mark b\nmark link val=9\nmark code bars=*\nnode doc : (p|h|hr)+\nnode p marks=* : (text|br|i)*\nnode h attr=3 : text*\nnode hr attr=999\nnode br inline\nnode i inline pick attr=12\n"

// made is the schema.
func made(t testing.TB) *schema.Schema {
	t.Helper()
	s, e := schema.New(lines)
	if e != api.OK {
		t.Fatal(e)
	}
	return s
}

// letter is a letter with marks.
func letter(r rune, m ...uint16) api.Token {
	t := api.Token{Kind: api.Char, Rune: r}
	copy(t.Marks[:], m)
	return t
}

// node is an open token or a leaf with marks.
func node(kind, typ, attr int, m ...uint16) api.Token {
	t := api.Token{Kind: kind, Type: typ, Attr: attr}
	copy(t.Marks[:], m)
	return t
}

// shutToken is a close.
func shutToken() api.Token { return api.Token{Kind: api.Close} }

// checkLine holds a line and tokens against each other, both ways.
func checkLine(t *testing.T, s *schema.Schema, line string, l ...api.Token) {
	t.Helper()
	if got, at, e := Parse(s, line); !slices.Equal(got, l) || at != 0 || e != api.OK {
		t.Errorf("%q: %v, %d, %v", line, got, at, e)
	}
	if w, ok := Show(s, l); w != line || !ok {
		t.Errorf("%v: %q, %v", l, w, ok)
	}
}

// P13.2, P13.3: the example.
func TestExample(t *testing.T) {
	s, e := schema.New("mark b\nnode doc : (p|hr)+\nnode p marks=* : text*\nnode hr attr=2\n")
	if e != api.OK {
		t.Fatal(e)
	}
	checkLine(t, s, `<p "ab b"c *hr=2 >`, node(api.Open, 2, 0), letter('a'), letter('b'), letter('c', 1), node(api.Leaf, 3, 2), shutToken())
}

// P13.2, P13.3, P13.4: lines and their tokens.
func TestLines(t *testing.T) {
	s := made(t)
	checkLine(t, s, "")
	checkLine(t, s, ">", shutToken())
	checkLine(t, s, "> >", shutToken(), shutToken())
	checkLine(t, s, "<doc", node(api.Open, 1, 0))
	checkLine(t, s, "<h=3", node(api.Open, 3, 3))
	checkLine(t, s, "<h", node(api.Open, 3, 0))
	checkLine(t, s, "*hr=999", node(api.Leaf, 4, 999))
	checkLine(t, s, "*hr *hr", node(api.Leaf, 4, 0), node(api.Leaf, 4, 0))
	checkLine(t, s, "*br", node(api.Leaf, 5, 0))
	checkLine(t, s, "b+link=9*i=12", node(api.Leaf, 6, 12, 1, 10))
	checkLine(t, s, "code*i", node(api.Leaf, 6, 0, 0, 0, 1))
	checkLine(t, s, `"a`, letter('a'))
	checkLine(t, s, `link"a`, letter('a', 0, 1))
	checkLine(t, s, `"a b"a "a`, letter('a'), letter('a', 1), letter('a'))
	checkLine(t, s, `link"a link=1"a`, letter('a', 0, 1), letter('a', 0, 2))
	checkLine(t, s, `"a > "a`, letter('a'), shutToken(), letter('a'))
	checkLine(t, s, `b"a b*br b"a`, letter('a', 1), node(api.Leaf, 5, 0, 1), letter('a', 1))
	checkLine(t, s, `""*<>=+`, letter('"'), letter('*'), letter('<'), letter('>'), letter('='), letter('+'))
	checkLine(t, s, `b"*hr"x`, letter('*', 1), letter('h', 1), letter('r', 1), letter('"', 1), letter('x', 1))
	checkLine(t, s, `"\s\n\x00\\\x7f`+"\u0080\u20ac\U0010ffff", letter(' '), letter('\n'), letter(0), letter('\\'), letter(127), letter(128), letter(8364), letter(1114111))
}

// P13.3: each error, and which one is told.
func TestErrors(t *testing.T) {
	s := made(t)
	for want, l := range map[api.Errno][]string{
		api.ErrForm: {
			"p", "b", "text", "=", "=1", "p=1", "p<", "a<p", "x>", "><", ">>", ">p", "+", "\\", "\\s", "\xff", "\u20ac",
			"<", "<=", "<=1", "<P", "<1", "<p=", "<p=0", "<p=01", "<p=-1", "<p=+1", "<p=1000", "<p=1=1", "<h==1", "<p+", "<p*", "<p\"a", "<p>", "<*hr", "<\"a", "<<p", "<p\\s", "<abcdefghijklm", "<\xff", "<p=\u0661",
			"*", "*=1", "*hr=", "*hr=0", "*hr=00", "*hr=1000", "*hr=18446744073709551617", "*Hr", "**hr", "*hr*", "*hr\"", "*\"a", "*hr\"a", "b**br", "*<p", "*>", "*abcdefghijklm", "*br+b",
			"+*br", "b+*br", "+b*br", "link=0*br", "link=*br", "link=1000*br", "b+b*br", "link+b*br", "B*br", "<b*", ">*br", "=*br", "b,code*br", ">b*br", "\\b*br",
			"\"", "b\"", "code\"", "\"\\", "\"\\q", "\"\\x", "\"\\x4", "\"\\x41", "\"\\x0A", "\"\\x20", "\"\\x0a", "\"\\x5c", "\"\\xff", "\"a\\", "+\"a", "b+\"a", "link=0\"a", "link+b\"a", "b+b\"a", "B\"a", ">\"a", "p=\"a", "\\\"a",
			// What is a word's form comes ahead of marks' errors, and of names.
			"x*Hr", "x*", "x\"", "x\"\\", "b=1*", "b+code\"", "link=10\"\\x", "<x=0", "*x=0", "x*x=0", "b+code*x=1000",
		},
		api.ErrNone: {
			"<x", "<text", "*x", "*text", "<b", "*b", "<abcdefghijkl", "*abcdefghijkl=999", "<x=999", "*text=1", "<text=1",
			"x*br", "x\"a", "b+x\"a", "p\"a", "text\"a", "x=9*x", "x\"\xff", "b*x", "b*text", "link=9*p1", "x+b=1\"a",
		},
		api.ErrFit:   {"<hr", "<br", "<i", "<hr=1", "<br=7", "*p", "*doc", "*h", "*h=4", "b*p", "b*p=999", "<i=13"},
		api.ErrRange: {"<p=1", "<doc=999", "<h=4", "*br=1", "*i=13", "b*br=1", "b=1*br", "link=10*br", "link=10\"a", "b=1\"\xff", "b=1*x", "b=1*hr", "link=10*hr=2", "b=1+x\"a"},
		api.ErrMark:  {"b*hr", "link=9*hr=999", "code*hr", "b+code*br", "b+code\"a", "link+code*i=12", "b+code\"\xff", "b+code*x", "b+code*p", "b+code*br=1", "b+link+code\"a"},
		api.ErrUtf:   {"\"\xff", "\"a\xffb", "\"\x80", "\"\xc0\x80", "\"\xe2\x82", "\"\xed\xa0\x80", "\"\xf4\x90\x80\x80", "b\"\xff", "\"\xe2\\n\x82", "\"\xf0\x82\x82\xac"},
	} {
		for _, w := range l {
			// Wherever the word stands it is told, and of two that are wrong the first one.
			for ahead, n := range map[string]int{"": 1, "> ": 2, "<p > *br ": 4, "b\"a > link\"\\s ": 4} {
				for _, behind := range []string{"", " >", " \"", " <x", " \"\xff"} {
					if got, at, e := Parse(s, ahead+w+behind); len(got) != 0 || at != n || e != want {
						t.Errorf("%q: %v, %d, %v, not %v", ahead+w+behind, got, at, e, want)
					}
				}
			}
		}
	}
}

// P13.3: what is no line has no word that is wrong.
func TestNoLine(t *testing.T) {
	s := made(t)
	for _, line := range []string{" ", " >", "> ", ">  >", ">\n", "\n", ">\t>", "x  x", " x", "x ", "\"a\x00", "\"\x7f", "<x <x\r"} {
		if l, at, e := Parse(s, line); len(l) != 0 || at != 0 || e != api.ErrForm {
			t.Errorf("%q: %v, %d, %v", line, l, at, e)
		}
	}
}

// P13.3: letters with the same marks have one word; that comes behind all other errors but the last one.
func TestLettersSideBySide(t *testing.T) {
	s := made(t)
	for line, want := range map[string]struct {
		at int
		e  api.Errno
	}{
		`"a "b`:               {2, api.ErrForm},
		`b"a b"b`:             {2, api.ErrForm},
		`"a b"a b"a`:          {3, api.ErrForm},
		`> link=9"a link=9"a`: {3, api.ErrForm},
		`"a "b "c`:            {2, api.ErrForm},
		`"a x"b`:              {2, api.ErrNone},
		"\"a \"\xff":          {2, api.ErrUtf},
		`"a "`:                {2, api.ErrForm},
	} {
		if l, at, e := Parse(s, line); len(l) != 0 || at != want.at || e != want.e {
			t.Errorf("%q: %v, %d, %v", line, l, at, e)
		}
	}
}

// P13.3: how many tokens a line may have; the word with which there are too many is told.
func TestLong(t *testing.T) {
	s := made(t)
	full := strings.Repeat("x", api.MaxSize)
	closes := strings.Repeat("> ", api.MaxSize)
	for _, x := range []struct {
		line  string
		n, at int
		e     api.Errno
	}{
		{`"` + full, api.MaxSize, 0, api.OK},
		{`"x` + full, 0, 1, api.ErrLong},
		{`"` + full + " >", 0, 2, api.ErrLong},
		{`"` + full + ` "x`, 0, 2, api.ErrForm},
		{`"` + full + ` b"x`, 0, 2, api.ErrLong},
		{`"` + full + " <x", 0, 2, api.ErrNone},
		{`"` + full + " > <x", 0, 2, api.ErrLong},
		{`"` + full[1:] + " *br", api.MaxSize, 0, api.OK},
		{`*br "` + full, 0, 2, api.ErrLong},
		{`"x "` + full, 0, 2, api.ErrForm},
		{closes[:len(closes)-1], api.MaxSize, 0, api.OK},
		{closes + ">", 0, api.MaxSize + 1, api.ErrLong},
		{closes + "> >", 0, api.MaxSize + 1, api.ErrLong},
		{closes + "x", 0, api.MaxSize + 1, api.ErrForm},
		{closes, 0, 0, api.ErrForm},
		{`"` + strings.Repeat("\u20ac", api.MaxSize), api.MaxSize, 0, api.OK},
		{`"x` + strings.Repeat("\\s", api.MaxSize), 0, 1, api.ErrLong},
		{`"x` + full + "\xff", 0, 1, api.ErrUtf},
	} {
		l, at, e := Parse(s, x.line)
		if len(l) != x.n || at != x.at || e != x.e {
			t.Errorf("%.20q: %d, %d, %v", x.line, len(l), at, e)
		}
		if w, ok := Show(s, l); e == api.OK && (!ok || w != x.line) {
			t.Errorf("%.20q is shown as %.20q", x.line, w)
		}
	}
	// What is shown has no such limit.
	l := slices.Repeat([]api.Token{letter('x'), shutToken()}, api.MaxSize)
	if w, ok := Show(s, l); !ok || w != strings.TrimSuffix(strings.Repeat("\"x > ", api.MaxSize), " ") {
		t.Error(len(w), ok)
	}
}

// may tells whether a token may be in the tests' schema, as the chapter's words say it.
func may(t api.Token) bool {
	set := t.Marks[0] <= 1 && t.Marks[1] <= 10 && t.Marks[2] <= 1 && [5]uint16(t.Marks[3:]) == [5]uint16{} && (t.Marks[2] == 0 || t.Marks[0] == 0 && t.Marks[1] == 0)
	bare := t.Marks == api.Marks{}
	switch t.Kind {
	case api.Open:
		most := []int{-1, 0, 0, 3, -1, -1, -1}
		return t.Type >= 0 && t.Type < 7 && t.Attr >= 0 && t.Attr <= most[t.Type] && t.Rune == 0 && bare
	case api.Close:
		return t.Type == 0 && t.Attr == 0 && t.Rune == 0 && bare
	case api.Leaf:
		most := []int{-1, -1, -1, -1, 999, 0, 12}
		return t.Type >= 0 && t.Type < 7 && t.Attr >= 0 && t.Attr <= most[t.Type] && t.Rune == 0 && (bare || set && t.Type != 4)
	case api.Char:
		return t.Type == 0 && t.Attr == 0 && utf8.ValidRune(t.Rune) && set
	}
	return false
}

// manyTokens are tokens of which many may not be.
func manyTokens() []api.Token {
	var l []api.Token
	sets := []api.Marks{{}, {1}, {2}, {0, 10}, {0, 11}, {1, 1}, {0, 0, 1}, {1, 0, 1}, {0, 0, 0, 1}, {0, 0, 0, 0, 0, 0, 0, 1}, {0, 0, 0, 0, 0, 0, 0, 65535}}
	for _, kind := range []int{-1 << 63, -1, 0, 1, 2, 3, 4, 5, 1 << 32, 1<<32 + 2} {
		for _, typ := range []int{-1 << 63, -1, 0, 1, 2, 3, 4, 5, 6, 7, 24, 1<<32 + 2, 1<<63 - 1} {
			for _, attr := range []int{-1 << 63, -1, 0, 1, 3, 4, 12, 13, 999, 1000, 1 << 32, 1<<63 - 1} {
				for _, r := range []rune{-1 << 31, -1, 0, 'a', 55295, 55296, 57343, 57344, 1114111, 1114112, 1<<31 - 1} {
					for _, m := range sets {
						l = append(l, api.Token{Kind: kind, Type: typ, Attr: attr, Rune: r, Marks: m})
					}
				}
			}
		}
	}
	return l
}

// P13.1: which tokens may be, and which ones are inline, whether or not they may be.
func TestRight(t *testing.T) {
	s := made(t)
	count := 0
	for _, x := range manyTokens() {
		if Right(s, x) != may(x) {
			t.Fatalf("%+v: %v", x, Right(s, x))
		}
		if may(x) {
			count++
		}
		inline := x.Kind == api.Char || x.Kind == api.Leaf && (x.Type == 5 || x.Type == 6 || x.Type == 0)
		if Inline(s, x) != inline {
			t.Fatalf("%+v is inline: %v", x, Inline(s, x))
		}
		if at, ok := All(s, []api.Token{shutToken(), x, {}}); at != map[bool]int{true: 2, false: 1}[may(x)] || ok {
			t.Fatalf("%+v: %d, %v", x, at, ok)
		}
		if w, ok := Show(s, []api.Token{x}); ok != may(x) || (w != "") != ok {
			t.Fatalf("%+v is shown as %q, %v", x, w, ok)
		}
		if l, _, e := Parse(s, word(s, []api.Token{x})); may(x) && (e != api.OK || !slices.Equal(l, []api.Token{x})) {
			t.Fatalf("%+v is parsed as %v, %v", x, l, e)
		}
	}
	if count != 68 {
		t.Error(count)
	}
}

// P13.1: lists.
func TestAll(t *testing.T) {
	s := made(t)
	for _, l := range [][]api.Token{nil, {}, {shutToken()}, {letter('a'), node(api.Leaf, 4, 1), shutToken(), shutToken()}} {
		if at, ok := All(s, l); at != 0 || !ok {
			t.Errorf("%v: %d, %v", l, at, ok)
		}
		for i := range len(l) + 1 {
			for _, wrong := range []api.Token{{}, letter(-1), node(api.Open, 4, 0), node(api.Leaf, 4, 0, 1)} {
				more := slices.Insert(slices.Clone(l), i, wrong)
				if at, ok := All(s, append(more, api.Token{})); at != i || ok {
					t.Errorf("%v: %d, %v", more, at, ok)
				}
				if w, ok := Show(s, more); w != "" || ok {
					t.Errorf("%v: %q, %v", more, w, ok)
				}
			}
		}
	}
}

// P13.1: each field tells tokens apart, and so does how many there are.
func TestSame(t *testing.T) {
	l := []api.Token{node(api.Open, 2, 1), letter('a', 1, 2, 3, 4, 5, 6, 7, 8), shutToken()}
	if !Same(nil, nil) || !Same(nil, []api.Token{}) || !Same(l, slices.Clone(l)) || Same(l, nil) || Same(nil, l) || Same(l, l[:2]) || Same(l[:2], l) || Same(l, l[1:]) {
		t.Error("same")
	}
	changes := []func(x *api.Token){
		func(x *api.Token) { x.Kind++ }, func(x *api.Token) { x.Type += 1 << 32 }, func(x *api.Token) { x.Attr-- }, func(x *api.Token) { x.Rune++ },
	}
	for i := range api.MaxMarks {
		changes = append(changes, func(x *api.Token) { x.Marks[i] += 256 })
	}
	for i := range l {
		for _, change := range changes {
			other := slices.Clone(l)
			change(&other[i])
			if Same(l, other) || Same(other, l) {
				t.Errorf("%v and %v", l, other)
			}
		}
	}
}

// P13.1: letters, whether or not they are some.
func TestText(t *testing.T) {
	if l := Text(); len(l) != 0 {
		t.Error(l)
	}
	runes := []rune{'a', 0, 55296, -1, 1 << 30, 8364}
	l := Text(runes...)
	if len(l) != len(runes) {
		t.Fatal(l)
	}
	for i, r := range runes {
		if l[i] != (api.Token{Kind: api.Char, Rune: r}) {
			t.Error(l[i])
		}
	}
}

// P1, P13: of a nil schema.
func TestNil(t *testing.T) {
	for _, x := range []api.Token{{}, shutToken(), letter('a'), node(api.Open, 0, 0), node(api.Open, 1, 0), node(api.Leaf, 0, 0)} {
		l := []api.Token{x}
		if at, ok := All(nil, l); at != 0 || ok || Right(nil, x) || Inline(nil, x) {
			t.Error(x, at, ok)
		}
		if w, ok := Show(nil, l); w != "" || ok {
			t.Error(w, ok)
		}
	}
	if at, ok := All(nil, nil); at != 0 || ok {
		t.Error(at, ok)
	}
	if w, ok := Show(nil, nil); w != "" || ok {
		t.Error(w, ok)
	}
	for _, line := range []string{"", ">", "x", "  "} {
		if l, at, e := Parse(nil, line); l != nil || at != 0 || e != api.ErrNil {
			t.Error(l, at, e)
		}
	}
}

// nodeForm is what stands behind < and *.
var nodeForm = regexp.MustCompile(`^([a-z][a-z0-9]{0,11})(?:=([1-9][0-9]{0,2}))?$`)

// pieceForm is bytes as a word's piece; what is no word at all isn't asked.
var pieceForm = regexp.MustCompile(`^(?:[^\\]|\\\\|\\s|\\n|\\x0[0-9b-f]|\\x1[0-9a-f]|\\x7f)+$`)

// bared is the bytes of such a piece.
func bared(piece string) string {
	var b []byte
	for i := 0; i < len(piece); i++ {
		switch {
		case piece[i] != '\\':
			b = append(b, piece[i])
			continue
		case piece[i+1] == 's':
			b = append(b, ' ')
		case piece[i+1] == 'n':
			b = append(b, '\n')
		case piece[i+1] == 'x':
			n, _ := strconv.ParseUint(piece[i+2:i+4], 16, 8)
			b = append(b, byte(n))
			i += 2
		default:
			b = append(b, '\\')
		}
		i++
	}
	return string(b)
}

// parsed is what should be told of a word of the tests' schema.
func parsed(s *schema.Schema, w string) ([]api.Token, api.Errno) {
	kind, set, rest := 0, "", ""
	star, quote := strings.Index(w, "*"), strings.Index(w, `"`)
	switch {
	case w == ">":
		return []api.Token{shutToken()}, api.OK
	case w[0] == '<':
		kind, rest = api.Open, w[1:]
	case star >= 0 && (quote < 0 || star < quote):
		kind, set, rest = api.Leaf, w[:star], w[star+1:]
	case quote >= 0:
		kind, set, rest = api.Char, w[:quote], w[quote+1:]
	default:
		return nil, api.ErrForm
	}
	found := nodeForm.FindStringSubmatch(rest)
	// Bytes that aren't letters' are some all the same to the form.
	latin := make([]rune, len(rest))
	for i := range len(rest) {
		latin[i] = rune(rest[i])
	}
	if kind != api.Char && found == nil || kind == api.Char && !pieceForm.MatchString(string(latin)) {
		return nil, api.ErrForm
	}
	m, e := marks.Parse(s, set)
	if e != api.OK {
		return nil, e
	}
	if kind == api.Char {
		b := bared(rest)
		if !utf8.ValidString(b) {
			return nil, api.ErrUtf
		}
		var l []api.Token
		for _, r := range b {
			l = append(l, letter(r, m[:]...))
		}
		return l, api.OK
	}
	typ := slices.Index([]string{"", "doc", "p", "h", "hr", "br", "i"}, found[1])
	attr, _ := strconv.Atoi(found[2])
	switch {
	case typ < 0:
		return nil, api.ErrNone
	case typ <= 3 && kind == api.Leaf || typ > 3 && kind == api.Open:
		return nil, api.ErrFit
	case attr > []int{0, 0, 0, 3, 999, 0, 12}[typ]:
		return nil, api.ErrRange
	case typ == 4 && set != "":
		return nil, api.ErrMark
	}
	return []api.Token{node(kind, typ, attr, m[:]...)}, api.OK
}

// parsedLine is what should be told of words with blanks between.
func parsedLine(s *schema.Schema, l []string) ([]api.Token, int, api.Errno) {
	var all []api.Token
	ahead := ""
	for i, w := range l {
		more, e := parsed(s, w)
		now := ""
		if e == api.OK && more[0].Kind == api.Char {
			now = w[:strings.Index(w, `"`)+1]
		}
		if e == api.OK && now != "" && now == ahead {
			e = api.ErrForm
		}
		if e != api.OK {
			return nil, i + 1, e
		}
		all, ahead = append(all, more...), now
	}
	return all, 0, api.OK
}

// checkWords holds what is parsed of words against what should be.
func checkWords(t *testing.T, s *schema.Schema, l []string) api.Errno {
	t.Helper()
	line := strings.Join(l, " ")
	want, n, e := parsedLine(s, l)
	got, at, f := Parse(s, line)
	if !slices.Equal(got, want) || at != n || f != e {
		t.Fatalf("%q: %v, %d, %v, not %v, %d, %v", line, got, at, f, want, n, e)
	}
	if w, ok := Show(s, got); f == api.OK && (!ok || w != line) {
		t.Fatalf("%q is shown as %q", line, w)
	}
	return e
}

// tokenByChance is a token that may be, out of few.
func tokenByChance(chance *rand.Rand) api.Token {
	sets := []api.Marks{{}, {1}, {0, 1}, {0, 5}, {1, 10}, {0, 0, 1}}
	t := api.Token{Kind: 1 + chance.IntN(4)}
	switch t.Kind {
	case api.Open:
		t.Type = 1 + chance.IntN(3)
	case api.Leaf:
		t.Type = 4 + chance.IntN(3)
	case api.Char:
		t.Rune = []rune{'a', ' ', '\\', '"', '*', '<', '>', '=', '+', 0, '\n', 127, 128, 8364, 1114111}[chance.IntN(15)]
	}
	t.Attr = chance.IntN([]int{1, 1, 1, 4, 1000, 1, 13}[t.Type])
	if t.Kind == api.Char || t.Type > 4 {
		t.Marks = sets[chance.IntN(len(sets))]
	}
	return t
}

// P13.1 to P13.4: tokens by chance, shown, parsed, and the line changed.
func TestByChance(t *testing.T) {
	s := made(t)
	chance := rand.New(rand.NewPCG(13, 4))
	counts := map[api.Errno]int{}
	pieces := []string{"b", "x", "link=1", "code", "+", "*", "\"", "<", ">", "=", "1", "p", "h", "hr", "i", "text", "\\", "\\s", "\\x", "0", "9", "\xff", "\xe2\x82\xac", "\x82"}
	for range 30000 {
		l := make([]api.Token, chance.IntN(7))
		for i := range l {
			l[i] = tokenByChance(chance)
			if !may(l[i]) || !Right(s, l[i]) {
				t.Fatal(l[i])
			}
		}
		line, ok := Show(s, l)
		if back, at, e := Parse(s, line); !ok || !Same(back, l) || at != 0 || e != api.OK {
			t.Fatalf("%v: %q, %v, %v", l, line, back, e)
		}
		if line == "" {
			continue
		}
		list := strings.Split(line, " ")
		for range chance.IntN(4) {
			i := chance.IntN(len(list))
			w := list[i]
			from := chance.IntN(len(w) + 1)
			to := min(len(w), from+chance.IntN(2))
			if changed := w[:from] + pieces[chance.IntN(len(pieces))] + w[to:]; chance.IntN(4) > 0 {
				list[i] = changed
			} else {
				list = slices.Insert(list, i, w)
			}
		}
		counts[checkWords(t, s, list)]++
	}
	if len(counts) != 7 {
		t.Error(counts)
	}
}

// P13.3: all words of a few bytes.
func TestAllWords(t *testing.T) {
	s := made(t)
	plain := func(c int) bool { return c > 32 && c != 127 }
	for i := range 1 << 16 {
		if plain(i>>8) && plain(i&255) {
			w := string([]byte{byte(i >> 8), byte(i)})
			checkWords(t, s, []string{w})
			checkWords(t, s, []string{`"` + w})
			checkWords(t, s, []string{`b"a`, w})
		}
	}
	for i := range 256 {
		if plain(i) {
			checkWords(t, s, []string{string([]byte{byte(i)})})
		}
	}
	some := []string{"<", ">", "*", `"`, "b", "+", "=", "1", "4", "p", "h", "br", "i", "\\", "s", "x"}
	for n := range 6 {
		count := 1
		for range n + 1 {
			count *= len(some)
		}
		if n == 5 {
			break
		}
		for i := range count {
			w := ""
			for range n + 1 {
				w, i = w+some[i%len(some)], i/len(some)
			}
			checkWords(t, s, []string{w})
		}
	}
}

// P3: what is handed in stays as it is, and what is answered is new.
func TestShares(t *testing.T) {
	s := made(t)
	room := []api.Token{letter('a'), letter('b'), shutToken(), node(api.Leaf, 4, 7), {Kind: 9}}
	was := slices.Clone(room)
	l := room[:3]
	Show(s, l)
	All(s, l)
	Same(l, room)
	runes := []rune{'a', 'b', 'c'}
	one := Text(runes[:2]...)
	two := Text(runes[:2]...)
	one[0] = api.Token{}
	_ = append(one, shutToken())
	if !slices.Equal(room, was) || string(runes) != "abc" || two[0] != letter('a') {
		t.Error(room, runes, two)
	}
	first, _, _ := Parse(s, `<p "ab >`)
	first[1] = api.Token{}
	if again, _, _ := Parse(s, `<p "ab >`); again[1] != letter('a') {
		t.Error(again)
	}
}
