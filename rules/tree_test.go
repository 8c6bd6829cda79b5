package rules

import (
	"slices"
	"testing"

	"stet/api"
	"stet/schema"
	"stet/token"
	"stet/tree"
	"stet/words"
)

// tokens are tokens of the schema of these tests that may be, and tokens that nobody would mean.
func tokens() []api.Token {
	l := []api.Token{{Kind: api.Open, Type: 2, Attr: 9}, {Kind: api.Close}, {Kind: api.Leaf, Type: 3}, {Kind: api.Leaf, Type: 4, Marks: api.Marks{1, 4}}, {Kind: api.Char, Rune: 'a'}, {Kind: api.Char, Rune: 8364, Marks: api.Marks{0, 0, 1}}}
	for kind := range 6 {
		for _, n := range numbers() {
			l = append(l, api.Token{Kind: kind, Type: n}, api.Token{Kind: kind, Type: 2, Attr: n}, api.Token{Kind: kind, Rune: rune(n)}, api.Token{Kind: kind, Marks: api.Marks{uint16(n), uint16(n)}}, api.Token{Kind: n, Type: kind})
		}
	}
	return l
}

// P1, P2: tokens that nobody would mean: nothing is shown or built of those that may not be, and nodes are made all the same.
func TestTokens(t *testing.T) {
	for _, s := range schemas(t) {
		for _, x := range tokens() {
			right := token.Right(s, x)
			l := []api.Token{x}
			if right && s == nil {
				t.Errorf("%+v may be in nil", x)
			}
			if at, ok := token.All(s, l); at != 0 || ok != right {
				t.Errorf("All(%+v) = %d, %v", x, at, ok)
			}
			if w, ok := token.Show(s, l); ok != right || (w != "") != right {
				t.Errorf("Show(%+v) = %q, %v", x, w, ok)
			}
			want := api.OK
			switch {
			case s == nil:
				want = api.ErrNil
			case !right:
				want = api.ErrArg
			case x.Kind == api.Open || x.Kind == api.Close:
				want = api.ErrOpen
			}
			if n, e := tree.Build(s, l); e != want || (n != nil) != (e == api.OK) {
				t.Errorf("Build(%+v): %v", x, e)
			}
			token.Inline(s, x)
			n := tree.Make(x, nil, tree.Make(x), tree.Make(api.Token{Kind: api.Open}))
			if (n == nil) != (x.Kind != api.Open && x.Kind != api.Leaf && x.Kind != api.Char) || !tree.Same(n, n) || n.Size() != len(n.Whole()) {
				t.Errorf("Make(%+v): %v", x, n)
			}
		}
	}
}

// P1, P5: nodes, and nil, are asked for kids by numbers of any size.
func TestKids(t *testing.T) {
	n, e := tree.Build(compiled(t), token.Text('a'))
	if e != api.OK {
		t.Fatal(e)
	}
	for _, i := range append(numbers(), 1<<32) {
		if kid := n.Kid(i); (kid != nil) != (i == 0) || kid.Kid(i) != nil || (*tree.Node)(nil).Kid(i) != nil {
			t.Errorf("Kid(%d) = %v", i, kid)
		}
	}
}

// P1, P2: texts that nobody would mean are no tokens, or are what they are shown as.
func TestTokenTexts(t *testing.T) {
	for _, text := range texts() {
		for _, s := range schemas(t) {
			for _, line := range []string{text, "<" + text, "*" + text, "\"" + text, text + "*br", text + "\"a", "<p " + text, text + " " + text} {
				l, at, e := token.Parse(s, line)
				if e != api.OK && l != nil || e == api.OK && at != 0 || s == nil && e != api.ErrNil {
					t.Errorf("Parse(%.60q) = %v, %d, %v", line, l, at, e)
				}
				if w, ok := token.Show(s, l); e == api.OK && (!ok || w != line) {
					t.Errorf("%.60q is shown as %.60q", line, w)
				}
			}
		}
	}
}

// treeSay is what is told of a line's tokens and tree, as words.
func treeSay(s *schema.Schema, line string) []string {
	l, at, e := token.Parse(s, line)
	n, f := tree.Build(s, l)
	said := []string{words.Show(at), e.Error(), f.Error()}
	var tell func(n *tree.Node)
	tell = func(n *tree.Node) {
		for _, k := range []int{n.Type(), n.Attr(), n.Size(), n.Height(), n.Kids(), len(n.Tokens())} {
			said = append(said, words.Show(k))
		}
		w, _ := token.Show(s, n.Whole())
		said = append(said, w, string(n.Text()))
		for i := range n.Kids() {
			tell(n.Kid(i))
		}
	}
	tell(n)
	return said
}

// P3, P6: trees stay as they are, whatever is done beside them, and with what was handed in and out.
func TestTreesStay(t *testing.T) {
	s := compiled(t)
	const line = `<p=9 "ab b"c link=4*br > *hr <p >`
	was := treeSay(s, line)
	l, _, _ := token.Parse(s, line)
	n, _ := tree.Build(s, l)
	other, _ := tree.Build(s, l)
	kids := []*tree.Node{n.Kid(0), n.Kid(0).Kid(0), n.Kid(0).Kid(0)}
	tree.Make(api.Token{Kind: api.Open, Type: 1}, kids[:2]...)
	tree.Make(api.Token{Kind: api.Open, Type: 1}, kids...)
	clear(kids)
	clear(l)
	for _, list := range [][]api.Token{n.Tokens(), n.Whole(), n.Kid(0).Kid(0).Whole()} {
		_ = append(list, api.Token{Kind: 9})
		clear(list)
	}
	clear(n.Kid(0).Kid(0).Text())
	if w, ok := token.Show(s, n.Tokens()); w != line || !ok || !tree.Same(n, other) {
		t.Error(w, ok)
	}
	if now := treeSay(s, line); !slices.Equal(now, was) {
		t.Error(now, was)
	}
}
