package page

import (
	"math/rand/v2"
	"slices"
	"strings"
	"testing"

	"stet/api"
	"stet/fits"
	"stet/schema"
	"stet/token"
	"stet/tree"
	"stet/words"
)

// blocks is a schema whose top type has nodes that aren't inline, row one whose top type has inline ones.
const (
	blocks = "mark b\nmark link val=9\nnode doc : (q|p|hr)+\nnode q attr=9 : (q|p|hr)*\nnode p marks=b : (text|br)*\nnode hr\nnode br inline attr=3\n"
	row    = "mark b\nmark link val=9\nnode doc marks=* : (text|br|im)*\nnode im inline attr=2\nnode br inline\n"
)

// made is a schema.
func made(t testing.TB, lines string) *schema.Schema {
	t.Helper()
	s, e := schema.New(lines)
	if e != api.OK {
		t.Fatal(e)
	}
	return s
}

// doc is a line's document.
func doc(t testing.TB, s *schema.Schema, line string) *tree.Node {
	t.Helper()
	l, at, e := token.Parse(s, line)
	n, f := fits.Doc(s, l)
	if e != api.OK || f != api.OK {
		t.Fatal(line, at, e, f)
	}
	return n
}

// P22.1, P22.2: the example, and pages there and back.
func TestThereAndBack(t *testing.T) {
	for _, x := range [][3]string{
		{blocks, `<p "a > *hr`, "<p \"a >\n*hr\n"},
		{blocks, `*hr`, "*hr\n"}, {blocks, `<p >`, "<p >\n"}, {blocks, `*hr *hr <p > *hr`, "*hr\n*hr\n<p >\n*hr\n"},
		{blocks, `<q=9 <p b"a "b\s\\\n *br=3 > <q > > <q >`, "<q=9 <p b\"a \"b\\s\\\\\\n *br=3 > <q > >\n<q >\n"},
		{row, ``, ""}, {row, `"a`, "\"a\n"}, {row, `"ab b"c *br b+link=3*im=2 "a`, "\"ab b\"c *br b+link=3*im=2 \"a\n"}, {row, `*br *br`, "*br *br\n"},
	} {
		s := made(t, x[0])
		n := doc(t, s, x[1])
		text, e := Write(s, n)
		if e != api.OK || text != x[2] {
			t.Errorf("%q: %q, %v", x[1], text, e)
		}
		m, at, e := Read(s, x[2])
		if e != api.OK || at != 0 || !tree.Same(m, n) {
			t.Errorf("%q: %v, %d, %v", x[2], m, at, e)
		}
	}
}

// P22.1: the errors of Write.
func TestWriteErrors(t *testing.T) {
	s := made(t, blocks)
	n := doc(t, s, `<q <p "a > >`)
	top, hr := api.Token{Kind: api.Open, Type: 1}, tree.Make(api.Token{Kind: api.Leaf, Type: 4})
	letter := tree.Make(api.Token{Kind: api.Char, Rune: 'a'})
	great, many, deep := hr, []*tree.Node{}, hr
	for range 55 {
		great = tree.Make(api.Token{Kind: api.Open, Type: 2}, great, great)
	}
	for range api.MaxSize {
		many = append(many, hr)
	}
	for range 40 {
		deep = tree.Make(api.Token{Kind: api.Open, Type: 2}, deep)
	}
	for i, x := range []struct {
		s    *schema.Schema
		n    *tree.Node
		want api.Errno
	}{
		{nil, n, api.ErrNil}, {s, nil, api.ErrNil}, {nil, nil, api.ErrNil}, {nil, letter, api.ErrNil},
		{s, n.Kid(0), api.ErrArg}, {s, n.Kid(0).Kid(0), api.ErrArg}, {s, n.Kid(0).Kid(0).Kid(0), api.ErrArg}, {s, hr, api.ErrArg}, {s, &tree.Node{}, api.ErrArg},
		{s, tree.Make(top), api.ErrArg}, {s, tree.Make(top, letter), api.ErrArg}, {s, tree.Make(top, tree.Make(top)), api.ErrArg}, {s, tree.Make(top, hr), api.OK},
		{s, tree.Make(top, hr, tree.Make(api.Token{Kind: api.Leaf, Type: 4, Attr: 1})), api.ErrArg}, {s, tree.Make(top, tree.Make(api.Token{Kind: api.Open, Type: 3}, tree.Make(api.Token{Kind: api.Char, Rune: 'a', Marks: api.Marks{0, 1}}))), api.ErrArg},
		{s, tree.Make(top, great), api.ErrArg}, {s, tree.Make(top, many...), api.OK}, {s, tree.Make(top, append(many, hr)...), api.ErrArg},
		{s, tree.Make(top, deep), api.OK}, {s, tree.Make(top, tree.Make(api.Token{Kind: api.Open, Type: 2}, deep)), api.ErrArg},
		{s, tree.Make(api.Token{Kind: api.Open, Type: 2}, hr), api.ErrArg}, {s, tree.Make(api.Token{Kind: api.Open, Type: -1}, hr), api.ErrArg}, {s, tree.Make(api.Token{Kind: api.Open, Type: 1<<32 + 1}, hr), api.ErrArg},
	} {
		if text, e := Write(x.s, x.n); e != x.want || (text != "") != (e == api.OK) {
			t.Errorf("%d: %q, %v", i, text, e)
		}
	}
}

// P22.1: a page may be longer than what Read takes.
func TestLongPages(t *testing.T) {
	s := made(t, blocks)
	p, hr := api.Token{Kind: api.Open, Type: 3}, api.Token{Kind: api.Leaf, Type: 4}
	for _, letters := range []int{16379, 16380} {
		l := slices.Concat([]api.Token{p}, slices.Repeat(token.Text(1), letters), []api.Token{{Kind: api.Close}}, slices.Repeat([]api.Token{hr}, 3))
		n, e := fits.Doc(s, l)
		if e != api.OK {
			t.Fatal(e)
		}
		text, e := Write(s, n)
		if want := `<p "` + strings.Repeat(`\x01`, letters) + " >\n*hr\n*hr\n*hr\n"; e != api.OK || text != want {
			t.Fatal(len(text), e)
		}
		m, at, e := Read(s, text)
		if long := letters == 16380; at != 0 || (e == api.ErrLong) != long || tree.Same(m, n) == long || (m == nil) != long {
			t.Error(len(text), at, e)
		}
	}
}

// P22.2: the errors of Read, and their places.
func TestReadErrors(t *testing.T) {
	many := strings.Repeat("*hr\n", 16384)
	for i, x := range []struct {
		lines, text string
		at          int
		want        api.Errno
	}{
		{blocks, many + "x", 0, api.ErrLong}, {blocks, many, 0, api.OK}, {blocks, many[4:] + "*h\n\n", 16384, api.ErrNone}, {blocks, many[4:] + "*h\n", 16384, api.ErrNone}, {blocks, many[1:] + "*", 16385, api.ErrForm},
		{blocks, "*hr", 1, api.ErrForm}, {blocks, "*hr\n*hr", 2, api.ErrForm}, {blocks, "x\n*hr", 2, api.ErrForm}, {blocks, " ", 1, api.ErrForm},
		{blocks, "*hr\n\n", 2, api.ErrForm}, {blocks, "\n", 1, api.ErrForm}, {blocks, "\n*x\n", 1, api.ErrForm}, {row, "\n", 1, api.ErrForm}, {row, "\"a\n\n\"a\n", 2, api.ErrForm},
		// A line's own errors: those of its tokens come first.
		{blocks, "*hr\n*hr *x\n", 2, api.ErrNone}, {blocks, "*hr\n*hr *hr\n*x\n", 2, api.ErrForm}, {blocks, "*hr\n*x\n*hr *hr\n", 2, api.ErrNone}, {blocks, "*hr\n> <p=9\n", 2, api.ErrRange}, {blocks, "*hr\n<p \"\xff >\n", 2, api.ErrUtf}, {blocks, "*hr\n<hr >\n", 2, api.ErrFit}, {blocks, "*hr\nb*hr\n", 2, api.ErrMark}, {blocks, "*hr\n<p \"a \"b\n", 2, api.ErrForm}, {blocks, "<p link\"a >\n<p link=10\"a\n", 2, api.ErrRange}, {blocks, "*hr \n", 1, api.ErrForm}, {blocks, " *hr\n", 1, api.ErrForm}, {blocks, "<p  >\n", 1, api.ErrForm},
		// A line is of one kid.
		{blocks, "*hr *hr\n", 1, api.ErrForm}, {blocks, "<p > *hr\n", 1, api.ErrForm}, {blocks, "*hr <p >\n", 1, api.ErrForm}, {blocks, "<p > <p >\n", 1, api.ErrForm}, {blocks, "<p\n", 1, api.ErrForm}, {blocks, ">\n", 1, api.ErrForm}, {blocks, "<p >\n>\n", 2, api.ErrForm}, {blocks, "<p > >\n", 1, api.ErrForm}, {blocks, "> <p\n", 1, api.ErrForm}, {blocks, "> <p >\n", 1, api.ErrForm}, {blocks, "<q <p >\n", 1, api.ErrForm}, {blocks, "<p\n>\n", 1, api.ErrForm}, {blocks, "<q <p > > >\n", 1, api.ErrForm}, {blocks, "<p > \"a\n", 1, api.ErrForm}, {blocks, "\"a *hr\n", 1, api.ErrForm}, {blocks, "\"a <p >\n", 1, api.ErrForm}, {blocks, "\"a >\n", 1, api.ErrForm}, {blocks, "<p \"a\n", 1, api.ErrForm}, {blocks, "*br *hr\n", 1, api.ErrForm}, {blocks, "*hr *br\n", 1, api.ErrForm},
		// Inline kids side by side are in one line.
		{row, "\"a\n\"b\n", 2, api.ErrForm}, {row, "\"a\nb\"b\n", 2, api.ErrForm}, {row, "*br\n*im\n", 2, api.ErrForm}, {row, "*br\n\"a\n", 2, api.ErrForm}, {row, "*br\n*br\n*x\n", 2, api.ErrForm}, {row, "*br\n*x\n*br\n", 2, api.ErrNone}, {row, "\"a *br \"b\n", 0, api.OK},
		// Doc's errors have no place.
		{blocks, "", 0, api.ErrFit}, {row, "", 0, api.OK}, {blocks, "\"a\n", 0, api.ErrFit}, {blocks, "*br\n", 0, api.ErrFit}, {blocks, "<p >\n\"a *br\n*hr\n\"b\n", 0, api.ErrFit}, {blocks, "\"a\n*hr\n*br\n", 0, api.ErrFit}, {blocks, "\"a\n*hr\n*br\n\"b\n", 4, api.ErrForm}, {blocks, "<p link\"a >\n", 0, api.ErrMark}, {blocks, "<q \"a >\n*hr\n", 0, api.ErrFit}, {blocks, "<doc >\n", 0, api.ErrFit}, {row, "<doc >\n", 0, api.ErrFit},
		{blocks, strings.Repeat("<q ", 40) + strings.Repeat("> ", 39) + ">\n", 0, api.OK}, {blocks, "*hr\n" + strings.Repeat("<q ", 41) + strings.Repeat("> ", 40) + ">\n", 0, api.ErrOpen},
		{blocks, "<p \"" + strings.Repeat("a", 19998) + " >\n", 0, api.OK}, {blocks, "<p \"" + strings.Repeat("a", 19998) + " >\n*hr\n", 0, api.ErrLong}, {blocks, "<p \"" + strings.Repeat("a", 19999) + " >\n", 1, api.ErrLong}, {blocks, "*hr\n<p \"" + strings.Repeat("a", 20000) + "\n", 2, api.ErrLong}, {blocks, "*hr\n<p \"" + strings.Repeat("a", 19999) + "\n", 2, api.ErrForm}, {blocks, "<p \"" + strings.Repeat("a", 19998) + " >\n*hr\n*x\n", 3, api.ErrNone},
	} {
		n, at, e := Read(made(t, x.lines), x.text)
		if e != x.want || at != x.at || (n == nil) != (e != api.OK) {
			t.Errorf("%d, %.30q: %v, %d, %v", i, x.text, n, at, e)
		}
		if n, at, e = Read(nil, x.text); n != nil || at != 0 || e != api.ErrNil {
			t.Error(n, at, e)
		}
	}
}

// kids is a page by a model of its own: the tokens of each kid, found by counting what is open, are a line, and inline ones side by side are one.
func kids(t *testing.T, s *schema.Schema, l []api.Token) string {
	t.Helper()
	var lines [][]api.Token
	open, among := 0, false
	for _, x := range l {
		if x.Kind == api.Close {
			open--
		}
		inline := token.Inline(s, x)
		if open > 0 || x.Kind == api.Close || inline && among {
			lines[len(lines)-1] = append(lines[len(lines)-1], x)
		} else {
			lines = append(lines, []api.Token{x})
		}
		if x.Kind == api.Open {
			open++
		}
		among = inline && open == 0
	}
	text := ""
	for _, x := range lines {
		w, ok := token.Show(s, x)
		if !ok {
			t.Fatal(x)
		}
		text += w + "\n"
	}
	return text
}

// grown is a row by chance that is right in the schema blocks.
func grown(chance *rand.Rand, deep int) []api.Token {
	var l []api.Token
	for range 1 + chance.IntN(3) {
		switch kind := 2 + chance.IntN(3); {
		case kind == 2 && deep > 0:
			l = slices.Concat(l, []api.Token{{Kind: api.Open, Type: kind, Attr: chance.IntN(10)}}, grown(chance, deep-1), []api.Token{{Kind: api.Close}})
		case kind == 3:
			l = slices.Concat(l, []api.Token{{Kind: api.Open, Type: kind}}, among(chance, 1), []api.Token{{Kind: api.Close}})
		default:
			l = append(l, api.Token{Kind: api.Leaf, Type: 4})
		}
	}
	return l
}

// among is a row of inline tokens by chance, with as many marks as they may have.
func among(chance *rand.Rand, marks int) []api.Token {
	var l []api.Token
	for range chance.IntN(6) {
		x := api.Token{Kind: api.Char, Rune: []rune{'a', 'b', ' ', 10, '\\', 0, 127, 128, 8364, 65536}[chance.IntN(10)]}
		if chance.IntN(3) == 0 {
			x = api.Token{Kind: api.Leaf, Type: 5 - 3*(marks-1) + chance.IntN(marks)}
		}
		for i := range marks {
			x.Marks[i] = uint16(chance.IntN(2))
		}
		l = append(l, x)
	}
	return l
}

// P22.3: what is written is what the model says, and is read as it was; what is read of a changed page was written so.
func TestByChance(t *testing.T) {
	chance := rand.New(rand.NewPCG(22, 1))
	read := 0
	for i := range 3000 {
		lines, l := blocks, []api.Token(nil)
		if l = grown(chance, 2); i%3 == 0 {
			lines, l = row, among(chance, 2)
		}
		s := made(t, lines)
		n, e := fits.Doc(s, l)
		if e != api.OK {
			t.Fatal(l, e)
		}
		text, e := Write(s, n)
		if want := kids(t, s, l); e != api.OK || text != want {
			t.Fatalf("%q, %q, %v", text, want, e)
		}
		if m, at, e := Read(s, text); e != api.OK || at != 0 || !tree.Same(m, n) {
			t.Fatalf("%q: %d, %v", text, at, e)
		}
		for range 10 {
			if readAgain(t, s, changed(chance, text)) {
				read++
			}
		}
	}
	if read < 1000 {
		t.Error(read)
	}
}

// changed is a text with some change by chance.
func changed(chance *rand.Rand, text string) string {
	at := chance.IntN(len(text) + 1)
	to := at + min(chance.IntN(3), len(text)-at)
	return text[:at] + []string{"", "\n", " ", ">", "*hr", "*hr\n", "\"a\n", "a", "\n*br ", "b", "<p >\n"}[chance.IntN(11)] + text[to:]
}

// readAgain tells whether a text is read, and holds it against what is written then.
func readAgain(t *testing.T, s *schema.Schema, text string) bool {
	t.Helper()
	n, at, e := Read(s, text)
	if e == api.OK {
		if back, f := Write(s, n); f != api.OK || back != text || at != 0 {
			t.Fatalf("%q, %q, %v", text, back, f)
		}
		return true
	}
	// Where a line is wrong, those ahead of it aren't, and what stands behind it isn't asked.
	if lines, _, f := words.Lines(text); f == api.OK && at > 0 {
		if _, early, _ := Read(s, strings.Join(append(lines[:at:at], ""), "\n")); early != at {
			t.Fatalf("%q: %d, %d", text, at, early)
		}
		if _, early, _ := Read(s, strings.Join(append(lines[:at-1:at-1], ""), "\n")); early != 0 {
			t.Fatalf("%q: %d, %d", text, at, early)
		}
	}
	return false
}

// P22.3: of all short texts of these words what is read was written so.
func TestAllShortTexts(t *testing.T) {
	parts := []string{"\n", " ", "> ", ">\n", "*hr\n", "*hr", "\"a", "<p ", "*br "}
	all, last := []string{""}, []string{""}
	for range 5 {
		var next []string
		for _, text := range last {
			for _, p := range parts {
				next = append(next, text+p)
			}
		}
		all, last = append(all, next...), next
	}
	for lines, want := range map[string]int{blocks: 20, row: 5} {
		read, s := 0, made(t, lines)
		for _, text := range all {
			if readAgain(t, s, text) {
				read++
			}
		}
		if read < want {
			t.Error(lines, read)
		}
	}
}
