package sel

import (
	"slices"
	"testing"

	"stet/api"
	"stet/fits"
	"stet/schema"
	"stet/slice"
	"stet/token"
	"stet/tree"
)

// made is the schema that the tests know: doc is 1, quote 2, p 3, h 4, hr 5, br 6, t 7, box 8. A quote, an hr, a t and a box may be selected.
func made(t testing.TB) *schema.Schema {
	t.Helper()
	s, e := schema.New("mark b\nmark link val=9\nnode doc : block*\nnode quote group=block pick attr=2 : block*\nnode p group=block marks=* : (text|br|t)*\nnode h group=block attr=3 : t*\nnode hr group=block pick\nnode br inline\nnode t inline pick attr=9\nnode box group=block pick : text*\n")
	if e != api.OK {
		t.Fatal(e)
	}
	return s
}

// flat is a schema of which the top has texts, and may be selected by its own words: doc is 1, br 2.
func flat(t testing.TB) *schema.Schema {
	t.Helper()
	s, e := schema.New("mark b\nnode doc pick marks=* : (text|br)*\nnode br inline\n")
	if e != api.OK {
		t.Fatal(e)
	}
	return s
}

// built is a line's tree, whether or not it is right.
func built(t testing.TB, s *schema.Schema, line string) *tree.Node {
	t.Helper()
	l, at, e := token.Parse(s, line)
	if e != api.OK {
		t.Fatal(line, at, e)
	}
	n, e := tree.Build(s, l)
	if e != api.OK {
		t.Fatal(line, e)
	}
	return n
}

// doc is a line's tree, which is right.
func doc(t testing.TB, s *schema.Schema, line string) *tree.Node {
	t.Helper()
	n := built(t, s, line)
	if _, e := fits.Tree(s, n); e != api.OK {
		t.Fatal(line, e)
	}
	return n
}

func ofText(anchor, head int) api.Sel {
	return api.Sel{Kind: api.SelText, Anchor: anchor, Head: head}
}

func ofNode(anchor, head int) api.Sel {
	return api.Sel{Kind: api.SelNode, Anchor: anchor, Head: head}
}

// odd are numbers at which nothing is.
func odd(size int) []int {
	return []int{-1 << 63, -1<<63 + 1, -1 << 32, -2, -1, size + 1, size + 2, 1 << 31, 1 << 32, 1<<32 + 1, 1<<32 + 2, 1<<62 - 1, 1 << 62, 1<<63 - 2, 1<<63 - 1}
}

// P31.1: the example.
func TestExample(t *testing.T) {
	s := made(t)
	n := doc(t, s, `<p "ab >`)
	if !Right(s, n, ofText(1, 3)) || Right(s, n, ofText(0, 3)) || Right(s, n, ofText(3, 0)) || Right(s, n, ofText(0, 0)) {
		t.Error("the example")
	}
}

// P31.1: of text both ends are where texts may be, whatever stands there, and whichever is ahead.
func TestTexts(t *testing.T) {
	s := made(t)
	// <quote <p a b(b) br t > <h > > hr <h t > <box x >: 0 to 18.
	n := doc(t, s, `<quote <p "a b"b *br *t > <h > > *hr <h *t > <box "x >`)
	good := []int{2, 3, 4, 5, 6, 8, 12, 13, 15, 16}
	for anchor := -2; anchor < 22; anchor++ {
		for head := -2; head < 22; head++ {
			want := slices.Contains(good, anchor) && slices.Contains(good, head)
			if Right(s, n, ofText(anchor, head)) != want {
				t.Error(anchor, head)
			}
			x, ok := Text(s, n, anchor, head)
			if ok != want || ok && x != ofText(anchor, head) || !ok && x != (api.Sel{}) {
				t.Error(anchor, head, x, ok)
			}
		}
	}
	for _, k := range odd(18) {
		for _, other := range []int{2, k} {
			for _, x := range []api.Sel{ofText(k, other), ofText(other, k)} {
				if got, ok := Text(s, n, x.Anchor, x.Head); ok || got != (api.Sel{}) || Right(s, n, x) {
					t.Error(x, got)
				}
			}
		}
	}
	f := flat(t)
	n = doc(t, f, `"a *br`)
	for at := -1; at < 5; at++ {
		if Right(f, n, ofText(at, 1)) != (at >= 0 && at <= 2) {
			t.Error(at)
		}
	}
	if !Right(f, doc(t, f, ``), ofText(0, 0)) || Right(s, doc(t, s, ``), ofText(0, 0)) {
		t.Error("of nothing")
	}
}

// P31.1: of a node all of it is selected, from its begin to its end, and just of a type that may be.
func TestNodes(t *testing.T) {
	s := made(t)
	// <quote <p a t > <quote hr > > hr <box > <p t(b) b(b) >: 0 to 16.
	n := doc(t, s, `<quote <p "a *t > <quote *hr > > *hr <box > <p b*t b"b >`)
	good := map[int]int{0: 9, 3: 4, 5: 8, 6: 7, 9: 10, 10: 12, 13: 14}
	for anchor := -2; anchor < 20; anchor++ {
		to, may := good[anchor]
		for head := -2; head < 20; head++ {
			if Right(s, n, ofNode(anchor, head)) != (may && head == to) {
				t.Error(anchor, head)
			}
		}
		x, ok := Node(s, n, anchor)
		if ok != may || ok && x != ofNode(anchor, to) || !ok && x != (api.Sel{}) {
			t.Error(anchor, x, ok)
		}
	}
	for _, k := range odd(16) {
		if x, ok := Node(s, n, k); ok || x != (api.Sel{}) {
			t.Error(k, x)
		}
		for _, x := range []api.Sel{ofNode(k, k), ofNode(k, k+1), ofNode(9, k), ofNode(k, 10)} {
			if Right(s, n, x) {
				t.Error(x)
			}
		}
	}
	// The top itself begins nowhere.
	f := flat(t)
	n = doc(t, f, `"ab`)
	for anchor := -1; anchor < 4; anchor++ {
		for head := -1; head < 5; head++ {
			if Right(f, n, ofNode(anchor, head)) {
				t.Error(anchor, head)
			}
		}
	}
}

// P31.1, P31.3: that of all is from 0 to the last position, and always valid.
func TestAll(t *testing.T) {
	s := made(t)
	for line, size := range map[string]int{``: 0, `<p >`: 2, `*hr`: 1, `<quote <p "ab > > *hr`: 7} {
		n := doc(t, s, line)
		if x := All(n); x != (api.Sel{Kind: api.SelAll, Head: size}) || !Right(s, n, x) {
			t.Errorf("%q: %v", line, x)
		}
		for _, anchor := range append(odd(size), 0, 1, size) {
			for _, head := range append(odd(size), 0, 1, size) {
				if want := anchor == 0 && head == size; Right(s, n, api.Sel{Kind: api.SelAll, Anchor: anchor, Head: head}) != want {
					t.Errorf("%q: %d to %d", line, anchor, head)
				}
			}
		}
	}
	wrong := built(t, s, `"a <p *hr > <p <p > >`)
	if !Right(s, wrong, All(wrong)) || All(wrong).Head != 8 {
		t.Error(All(wrong))
	}
	if All(nil) != (api.Sel{}) {
		t.Error(All(nil))
	}
}

// P31.1, P31.2: nothing is valid of nil, and of kinds that there are not.
func TestNone(t *testing.T) {
	s := made(t)
	n := doc(t, s, `<p "ab > *hr`)
	check := func(s *schema.Schema, n *tree.Node, x api.Sel) {
		t.Helper()
		if c, ok := Content(s, n, x); ok || len(c.Tokens) > 0 || c.Left != 0 || c.Right != 0 || Right(s, n, x) || Marks(s, n, x) != (api.Marks{}) {
			t.Error(x, c)
		}
	}
	for _, x := range []api.Sel{{}, ofText(1, 2), ofNode(4, 5), {Kind: api.SelAll, Head: 5}, {Kind: api.SelAll}} {
		check(nil, n, x)
		check(s, nil, x)
		check(nil, nil, x)
	}
	for _, kind := range append(odd(4), 0, 4, 1<<32+api.SelText, 1<<32+api.SelNode, 1<<32+api.SelAll) {
		for _, x := range []api.Sel{{Kind: kind}, {Kind: kind, Anchor: 1, Head: 2}, {Kind: kind, Anchor: 4, Head: 5}, {Kind: kind, Head: 5}} {
			check(s, n, x)
		}
	}
	for _, f := range []func(s *schema.Schema, n *tree.Node) (api.Sel, bool){
		func(s *schema.Schema, n *tree.Node) (api.Sel, bool) { return Text(s, n, 1, 2) },
		func(s *schema.Schema, n *tree.Node) (api.Sel, bool) { return Node(s, n, 4) },
	} {
		if x, ok := f(s, n); !ok || x == (api.Sel{}) {
			t.Error(x, ok)
		}
		for _, m := range []*tree.Node{n, nil} {
			if x, ok := f(nil, m); ok || x != (api.Sel{}) {
				t.Error(x, ok)
			}
		}
		if x, ok := f(s, nil); ok || x != (api.Sel{}) {
			t.Error(x, ok)
		}
	}
}

// P31.1: the lesser end ahead of the greater one, of any numbers.
func TestSpan(t *testing.T) {
	for _, a := range append(odd(3), 0, 3) {
		for _, b := range append(odd(3), 0, 3) {
			if from, to := Span(api.Sel{Kind: b, Anchor: a, Head: b}); from > to || from != a && from != b || to != a && to != b || (a != b) != (from != to) {
				t.Error(a, b, from, to)
			}
		}
	}
	if from, to := Span(ofText(7, 3)); from != 3 || to != 7 {
		t.Error(from, to)
	}
	if from, to := Span(ofText(3, 7)); from != 3 || to != 7 {
		t.Error(from, to)
	}
}

// P31.2: the slice from From to To.
func TestContent(t *testing.T) {
	s := made(t)
	n := doc(t, s, `<quote <p "a b"bc *t > > *hr <h >`)
	for _, x := range []struct {
		x           api.Sel
		line        string
		left, right int
	}{
		{ofText(2, 6), `"a b"bc *t`, 0, 0}, {ofText(6, 2), `"a b"bc *t`, 0, 0}, {ofText(3, 4), `b"b`, 0, 0}, {ofText(4, 4), ``, 0, 0},
		{ofText(10, 5), `*t > > *hr <h`, 2, 1}, {ofText(5, 10), `*t > > *hr <h`, 2, 1}, {ofText(10, 10), ``, 0, 0},
		{ofNode(0, 8), `<quote <p "a b"bc *t > >`, 0, 0}, {ofNode(5, 6), `*t`, 0, 0}, {ofNode(8, 9), `*hr`, 0, 0},
		{All(n), `<quote <p "a b"bc *t > > *hr <h >`, 0, 0},
	} {
		c, ok := Content(s, n, x.x)
		if line, _ := token.Show(s, c.Tokens); !ok || line != x.line || c.Left != x.left || c.Right != x.right {
			t.Error(x.x, c, ok)
		}
	}
	for _, x := range []api.Sel{ofText(0, 6), ofText(2, 8), ofNode(0, 9), ofNode(1, 7), ofNode(8, 0), {Kind: api.SelAll, Anchor: 11}, {Kind: api.SelAll, Head: 10}, {}} {
		if c, ok := Content(s, n, x); ok || len(c.Tokens) > 0 || c.Left != 0 || c.Right != 0 {
			t.Error(x, c, ok)
		}
	}
}

// P31.2: a letter has the marks of what is inline ahead of From, or else of what is behind it.
func TestMarks(t *testing.T) {
	s := made(t)
	bold, link := api.Marks{1}, api.Marks{0, 6}
	// <quote <p a(b) b c(link) br(b) > <p t(link) x > <p > > hr <h *t(b) >
	n := doc(t, s, `<quote <p b"a "b link=5"c b*br > <p link=5*t "x > <p > > *hr <box "y >`)
	for at, want := range map[int]api.Marks{2: bold, 3: bold, 4: {}, 5: link, 6: bold, 8: link, 9: link, 10: {}, 12: {}, 16: {}, 17: {}} {
		for _, to := range []int{at, 17, 16, 12} {
			if to < at {
				continue
			}
			if m := Marks(s, n, ofText(at, to)); m != want {
				t.Error(at, to, m)
			}
			if m := Marks(s, n, ofText(to, at)); m != want {
				t.Error(to, at, m)
			}
		}
	}
	// Of others, and of one that isn't valid, there are none.
	for _, x := range []api.Sel{ofText(1, 3), ofText(3, 7), ofNode(8, 9), ofNode(3, 4), All(n), {Kind: 9, Anchor: 3, Head: 3}, {Anchor: 3, Head: 3}} {
		if m := Marks(s, n, x); m != (api.Marks{}) {
			t.Error(x, m)
		}
	}
	f := flat(t)
	n = doc(t, f, `b"a "b b*br`)
	for at, want := range []api.Marks{bold, bold, {}, bold} {
		if m := Marks(f, n, ofText(at, at)); m != want {
			t.Error(at, m)
		}
	}
	if m := Marks(f, n, All(n)); m != (api.Marks{}) {
		t.Error(m)
	}
}

func open(typ int) api.Token { return api.Token{Kind: api.Open, Type: typ} }

func leaf(typ int, m ...uint16) api.Token {
	t := api.Token{Kind: api.Leaf, Type: typ}
	copy(t.Marks[:], m)
	return t
}

func letter(r rune, m ...uint16) api.Token {
	t := api.Token{Kind: api.Char, Rune: r}
	copy(t.Marks[:], m)
	return t
}

// P31.1, P31.2: in trees that aren't right types alone tell what may be selected, and where text may be; no mark comes from beyond what isn't inline.
func TestWrongTrees(t *testing.T) {
	s := made(t)
	inner := tree.Make(open(3), tree.Make(letter('b', 1)))
	opened := tree.Make(open(7), tree.Make(letter('z', 1)))
	p := tree.Make(open(3), tree.Make(letter('x', 1)), tree.Make(leaf(5, 1)), inner, tree.Make(letter('y', 1)), opened)
	// a <p x(b) hr(b) <p b(b) > y(b) <t z(b) > > and leaves of quote, p, text, and of none.
	n := tree.Make(open(1), tree.Make(letter('a')), p, tree.Make(leaf(2)), tree.Make(leaf(3)), tree.Make(leaf(0, 1)), tree.Make(leaf(99)))
	bold := api.Marks{1}
	texts := map[int]api.Marks{2: bold, 3: bold, 4: {}, 5: bold, 6: bold, 7: bold, 8: bold, 11: {}}
	nodes := map[int]int{3: 4, 8: 11, 12: 13}
	for at := -1; at < 20; at++ {
		m, may := texts[at]
		if Right(s, n, ofText(at, at)) != may || Marks(s, n, ofText(at, at)) != m {
			t.Error(at, Marks(s, n, ofText(at, at)))
		}
		to, may := nodes[at]
		if x, ok := Node(s, n, at); ok != may || x.Head != to {
			t.Error(at, x, ok)
		}
	}
	if c, ok := Content(s, n, ofNode(8, 11)); !ok || !token.Same(c.Tokens, opened.Whole()) {
		t.Error(c)
	}
	// Types of none of the schema's.
	for _, typ := range []int{-1 << 63, -1, 0, 9, 99, 1<<32 + 3, 1<<63 - 1} {
		n := tree.Make(open(1), tree.Make(open(typ), tree.Make(letter('x', 1))), tree.Make(leaf(typ)))
		for at := range 5 {
			if Right(s, n, ofText(at, at)) || Right(s, n, ofNode(at, at+1)) || Right(s, n, ofNode(at, at+3)) {
				t.Error(typ, at)
			}
		}
	}
}

// P31.1, P31.2: trees that are deeper than documents, or greater than one could go through.
func TestGreat(t *testing.T) {
	s := made(t)
	const deep = 2000
	n := tree.Make(open(3), tree.Make(letter('x', 1)))
	for range deep {
		n = tree.Make(open(2), n)
	}
	n = tree.Make(open(1), n)
	if !Right(s, n, ofText(deep+1, deep+2)) || Right(s, n, ofText(deep, deep+2)) || !Right(s, n, ofNode(deep-1, deep+4)) || Marks(s, n, ofText(deep+2, deep+2)) != (api.Marks{1}) {
		t.Error("deep")
	}
	if c, ok := Content(s, n, ofNode(deep-1, deep+4)); !ok || len(c.Tokens) != 5 {
		t.Error(c)
	}
	n = tree.Make(open(3), tree.Make(letter('x')))
	for range 58 {
		n = tree.Make(open(2), n, n)
	}
	n = tree.Make(open(1), n)
	half := n.Size()/2 - 1
	if !Right(s, n, ofText(half-58, half+58)) || Right(s, n, ofText(half-57, half+58)) || !Right(s, n, All(n)) || !Right(s, n, ofNode(0, n.Size()-2)) {
		t.Error(half)
	}
	if c, ok := Content(s, n, ofText(half+58, half-58)); !ok || c.Left != 58 || c.Right != 58 {
		t.Error(c.Left, c.Right, ok)
	}
	many := tree.Make(open(1), tree.Make(open(3), slices.Repeat([]*tree.Node{tree.Make(leaf(7)), tree.Make(leaf(6, 1))}, 1<<15)...))
	if x, ok := Node(s, many, 1<<15+1); !ok || x.Head != 1<<15+2 || Marks(s, many, ofText(1<<16+1, 1<<15+1)) != (api.Marks{1}) {
		t.Error(x)
	}
}

// P3, P6: a slice that is answered is new each time, and the tree stays as it is.
func TestStays(t *testing.T) {
	s := made(t)
	const line = `<quote <p "a b"bc *t > > *hr <h >`
	n := doc(t, s, line)
	for range 2 {
		for _, x := range []api.Sel{All(n), ofText(10, 3), ofNode(0, 8)} {
			c, ok := Content(s, n, x)
			again, _ := Content(s, n, x)
			_ = append(c.Tokens, api.Token{Kind: 9})
			clear(c.Tokens)
			from, to := Span(x)
			if want, _ := slice.Cut(n, from, to); !ok || !token.Same(again.Tokens, want.Tokens) || len(want.Tokens) == 0 {
				t.Error(x, again)
			}
		}
		if w, ok := token.Show(s, n.Tokens()); !ok || w != line {
			t.Error(w)
		}
	}
}
