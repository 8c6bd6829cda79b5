package cut

import (
	"math/rand/v2"
	"slices"
	"testing"

	"stet/api"
	"stet/schema"
	"stet/token"
	"stet/tree"
	"stet/within"
)

// made is the schema that the tests know: doc is 1, p 2, h 3, hr 4, br 5. What may stand in what isn't asked of nodes.
func made(t testing.TB) *schema.Schema {
	t.Helper()
	s, e := schema.New("mark b\nmark link val=9\nnode doc :\nnode p marks=* :\nnode h attr=9 :\nnode hr attr=2\nnode br inline\n")
	if e != api.OK {
		t.Fatal(e)
	}
	return s
}

// built is a line's tree.
func built(t testing.TB, s *schema.Schema, line string) *tree.Node {
	t.Helper()
	l, at, e := token.Parse(s, line)
	if e != api.OK {
		t.Fatal(line, at, e)
	}
	n, e := tree.Build(s, l)
	if e != api.OK {
		t.Fatal(line, e)
	}
	return n
}

// shown is the line of what stands within a node.
func shown(t testing.TB, s *schema.Schema, n *tree.Node) string {
	t.Helper()
	w, ok := token.Show(s, n.Tokens())
	if !ok {
		t.Fatal(n.Tokens())
	}
	return w
}

// open is an open token, letter a letter with marks, leaf a leaf's token.
func open(typ, attr int) api.Token { return api.Token{Kind: api.Open, Type: typ, Attr: attr} }

func leaf(typ int) api.Token { return api.Token{Kind: api.Leaf, Type: typ} }

func letter(r rune, m ...uint16) api.Token {
	t := api.Token{Kind: api.Char, Rune: r}
	copy(t.Marks[:], m)
	return t
}

// P15.1: the example.
func TestExample(t *testing.T) {
	s := made(t)
	c, e := Cut(built(t, s, `<p "ab > *hr`), 2, 5)
	if e != api.OK || shown(t, s, c) != `<p "b > *hr` {
		t.Error(c, e)
	}
}

// P15.1: what a cut leaves of leaves, texts and other nodes.
func TestCut(t *testing.T) {
	s := made(t)
	const line = `<h=3 <p "ab b"cd > *hr=2 <p > > "x *br "y`
	n := built(t, s, line)
	for _, x := range []struct {
		from, to int
		want     string
	}{
		{0, 14, line},
		{0, 0, ""}, {3, 3, ""}, {5, 5, ""}, {10, 10, ""}, {14, 14, ""},
		{0, 1, "<h=3 >"}, {1, 2, "<h=3 <p > >"}, {0, 2, "<h=3 <p > >"},
		{2, 3, `<h=3 <p "a > >`}, {3, 4, `<h=3 <p "b > >`}, {3, 5, `<h=3 <p "b b"c > >`}, {4, 6, `<h=3 <p b"cd > >`},
		{5, 6, `<h=3 <p b"d > >`}, {6, 7, "<h=3 <p > >"}, {6, 8, "<h=3 <p > *hr=2 >"}, {7, 8, "<h=3 *hr=2 >"}, {7, 9, "<h=3 *hr=2 <p > >"},
		{8, 9, "<h=3 <p > >"}, {9, 10, "<h=3 <p > >"}, {10, 11, "<h=3 >"}, {9, 12, `<h=3 <p > > "x`}, {10, 13, `<h=3 > "x *br`}, {11, 12, `"x`}, {12, 13, "*br"}, {12, 14, `*br "y`},
		{5, 13, `<h=3 <p b"d > *hr=2 <p > > "x *br`},
	} {
		c, e := Cut(n, x.from, x.to)
		if e != api.OK || shown(t, s, c) != x.want {
			t.Errorf("%d to %d: %q, %v", x.from, x.to, shown(t, s, c), e)
		}
	}
	h := n.Kid(0)
	c, e := Cut(h, 2, 7)
	if w, _ := token.Show(s, c.Whole()); e != api.OK || w != `<h=3 <p "b b"cd > *hr=2 >` {
		t.Errorf("%q, %v", w, e)
	}
}

// P15.1: each error, and which one is told.
func TestErrors(t *testing.T) {
	s := made(t)
	n := built(t, s, `<p "ab > *hr <p >`)
	p := n.Kid(0)
	for _, x := range []struct {
		n        *tree.Node
		from, to int
		want     api.Errno
	}{
		{nil, 0, 0, api.ErrNil}, {nil, -1, 0, api.ErrNil}, {nil, 1, 0, api.ErrNil},
		{n.Kid(1), 0, 0, api.ErrArg}, {n.Kid(1), 0, 1, api.ErrArg}, {n.Kid(1), -1, 9, api.ErrArg},
		{p.Kid(0), 0, 0, api.ErrArg}, {p.Kid(0), 0, 2, api.ErrArg}, {p.Kid(0), 2, 1, api.ErrArg},
		{n, -1, 0, api.ErrRange}, {n, -1, -1, api.ErrRange}, {n, 1, 0, api.ErrRange}, {n, 0, 8, api.ErrRange}, {n, 8, 8, api.ErrRange}, {n, 7, 6, api.ErrRange},
		{p, 0, 3, api.ErrRange}, {p, 3, 3, api.ErrRange}, {n.Kid(2), 0, 1, api.ErrRange}, {n.Kid(2), -1, 0, api.ErrRange},
		{n, 1 << 32, 1<<32 + 1, api.ErrRange}, {n, -1 << 63, 1<<63 - 1, api.ErrRange}, {n, 0, 1<<63 - 1, api.ErrRange}, {n, 1<<63 - 1, -1 << 63, api.ErrRange},
		{n, 0, 7, api.OK}, {n, 7, 7, api.OK}, {n, 0, 0, api.OK}, {p, 2, 2, api.OK}, {n.Kid(2), 0, 0, api.OK},
	} {
		c, e := Cut(x.n, x.from, x.to)
		if e != x.want || (c == nil) != (e != api.OK) {
			t.Errorf("%d to %d: %v, %v", x.from, x.to, c, e)
		}
		if l := Texts(x.n, x.from, x.to); e != api.OK && len(l) != 0 {
			t.Errorf("%d to %d: %v", x.from, x.to, l)
		}
	}
}

// P15.1: what is joined.
func TestJoin(t *testing.T) {
	s := made(t)
	n := built(t, s, `<p "a b"c > <h=2 b"d "e > <p > *hr "f`)
	p, h, empty, hr, text := n.Kid(0), n.Kid(1), n.Kid(2), n.Kid(3), n.Kid(4)
	for _, x := range []struct {
		a, b *tree.Node
		want string
	}{
		{p, h, `<p "a b"cd "e >`}, {h, p, `<h=2 b"d "ea b"c >`}, {p, p, `<p "a b"c "a b"c >`}, {empty, h, `<p b"d "e >`}, {h, empty, `<h=2 b"d "e >`}, {empty, empty, "<p >"},
		{p, n, `<p "a b"c <p "a b"c > <h=2 b"d "e > <p > *hr "f >`}, {n, p, `<doc <p "a b"c > <h=2 b"d "e > <p > *hr "fa b"c >`},
	} {
		if w, _ := token.Show(s, Join(x.a, x.b).Whole()); w != x.want {
			t.Errorf("%q, not %q", w, x.want)
		}
	}
	for _, none := range []*tree.Node{nil, hr, text, p.Kid(0)} {
		for _, other := range []*tree.Node{nil, hr, text, p, n} {
			if Join(none, other) != nil || Join(other, none) != nil {
				t.Error(none, other)
			}
		}
	}
	if shown(t, s, n) != `<p "a b"c > <h=2 b"d "e > <p > *hr "f` {
		t.Error(shown(t, s, n))
	}
}

// P15.2: where nodes differ, and where they don't.
func TestStartAndEnd(t *testing.T) {
	s := made(t)
	for _, x := range []struct {
		a, b        string
		start, i, j int
	}{
		{`"a`, ``, 0, 1, 0}, {`"abc`, `"abd`, 2, 3, 3}, {`"abc`, `"xbc`, 0, 1, 1}, {`"ab`, `"abab`, 2, 0, 2}, {`"aa`, `"aaa`, 2, 0, 1}, {`"abc`, `"ab b"c`, 2, 3, 3}, {`b"a "bc`, `"abc`, 0, 1, 1},
		{`"ab`, `"ab b"c`, 2, 2, 3}, {`"ab`, `"ab *br`, 2, 2, 3}, {`"ab`, `*br "ab`, 0, 0, 1}, {`b"a "b`, `"b`, 0, 1, 0},
		{`<p >`, `<h >`, 0, 1, 1}, {`<h=1 >`, `<h=2 >`, 0, 1, 1}, {`<p "a >`, `<h "a >`, 0, 1, 1}, {`<p >`, `<p "a >`, 1, 1, 2}, {`<p >`, `<p > <p >`, 2, 0, 2}, {`<p "a >`, `<p > <p "a >`, 1, 0, 2},
		{`<p <p > >`, `<p > <p >`, 1, 3, 3}, {`<p "ab > *hr`, `<p "ab > *hr=1`, 4, 5, 5}, {`<p "a > "x`, `<p "b > "x`, 1, 2, 2}, {`<p > "x`, `<p > *hr "x`, 2, 2, 3},
		{`<h <p "ab > >`, `<h <p "ac > >`, 3, 4, 4}, {`*hr`, `<p >`, 0, 1, 2}, {`"a`, `<p "a >`, 0, 1, 3}, {`<p "a > <p "a >`, `<p "a >`, 3, 3, 0}, {`b*br`, `*br`, 0, 1, 1},
	} {
		a, b := built(t, s, x.a), built(t, s, x.b)
		if at, ok := Start(a, b); at != x.start || !ok {
			t.Errorf("%q and %q: %d, %v", x.a, x.b, at, ok)
		}
		if at, ok := Start(b, a); at != x.start || !ok {
			t.Errorf("%q and %q: %d, %v", x.b, x.a, at, ok)
		}
		if i, j, ok := End(a, b); i != x.i || j != x.j || !ok {
			t.Errorf("%q and %q: %d, %d, %v", x.a, x.b, i, j, ok)
		}
		if j, i, ok := End(b, a); i != x.i || j != x.j || !ok {
			t.Errorf("%q and %q: %d, %d, %v", x.b, x.a, j, i, ok)
		}
	}
}

// P15.2: a nil node, a leaf and a text have no tokens within; what they and the nodes held against each other are, isn't asked.
func TestStartAndEndOfNone(t *testing.T) {
	s := made(t)
	n := built(t, s, `<p "ab > *hr <h=1 "ab > <p >`)
	for _, none := range []*tree.Node{nil, n.Kid(1), n.Kid(0).Kid(0), n.Kid(3)} {
		for i := range n.Kids() {
			kid := n.Kid(i)
			size := len(kid.Tokens())
			if at, ok := Start(none, kid); at != 0 || ok != (size > 0) {
				t.Error(i, at, ok)
			}
			if at, ok := Start(kid, none); at != 0 || ok != (size > 0) {
				t.Error(i, at, ok)
			}
			if at, to, ok := End(none, kid); at != 0 || to != size || ok != (size > 0) {
				t.Error(i, at, to, ok)
			}
			if at, to, ok := End(kid, none); at != size || to != 0 || ok != (size > 0) {
				t.Error(i, at, to, ok)
			}
		}
	}
	for _, l := range [][2]*tree.Node{{n.Kid(0), n.Kid(2)}, {n, n}, {n, built(t, s, shown(t, s, n))}, {nil, nil}} {
		if at, ok := Start(l[0], l[1]); at != 0 || ok {
			t.Error(at, ok)
		}
		if i, j, ok := End(l[0], l[1]); i != 0 || j != 0 || ok {
			t.Error(i, j, ok)
		}
	}
}

// P15.3: letters.
func TestTexts(t *testing.T) {
	s := made(t)
	n := built(t, s, `"z <h <p "ab b"€d > *hr <p "x *br "y > >`)
	for _, x := range []struct {
		from, to int
		want     string
	}{{0, 15, "zab€dxy"}, {0, 1, "z"}, {0, 0, ""}, {1, 3, ""}, {1, 4, "a"}, {4, 6, "b€"}, {6, 12, "dx"}, {7, 10, ""}, {5, 5, ""}, {13, 15, ""}, {11, 13, "y"}, {12, 13, "y"}} {
		if l := Texts(n, x.from, x.to); string(l) != x.want {
			t.Errorf("%d to %d: %q", x.from, x.to, string(l))
		}
	}
}

// kidsByChance are nodes, of which some have kids.
func kidsByChance(chance *rand.Rand, deep, most int) []*tree.Node {
	var l []*tree.Node
	for range chance.IntN(most + 1) {
		set := []uint16{uint16(chance.IntN(8) / 7), uint16(chance.IntN(9) / 8 * 4)}
		switch k := chance.IntN(8); {
		case k < 3 && deep > 0:
			l = append(l, tree.Make(open(2, 0), kidsByChance(chance, deep-1, most)...))
		case k == 3 && deep > 0:
			l = append(l, tree.Make(open(3, chance.IntN(2)), kidsByChance(chance, deep-1, most)...))
		case k == 4:
			l = append(l, tree.Make(leaf(4+chance.IntN(2))))
		default:
			l = append(l, tree.Make(letter(rune('a'+chance.IntN(2)), set...)))
		}
	}
	return l
}

// byChance is a node by chance.
func byChance(chance *rand.Rand) *tree.Node {
	return tree.Make(open(1+chance.IntN(3), 0), kidsByChance(chance, 3, 5)...)
}

// spans are of each token where the node begins and ends whose own it is.
func spans(l []api.Token) [][2]int {
	all := make([][2]int, len(l))
	var opened []int
	for i, x := range l {
		all[i] = [2]int{i, i + 1}
		switch x.Kind {
		case api.Open:
			opened = append(opened, i)
		case api.Close:
			from := opened[len(opened)-1]
			opened = opened[:len(opened)-1]
			all[from] = [2]int{from, i + 1}
			all[i] = all[from]
		}
	}
	return all
}

// left are the tokens of nodes that have a token between, and the letters between.
func left(l []api.Token, from, to int) ([]api.Token, []rune) {
	var some []api.Token
	var letters []rune
	for i, span := range spans(l) {
		if max(from, span[0]) < min(to, span[1]) {
			some = append(some, l[i])
			if l[i].Kind == api.Char {
				letters = append(letters, l[i].Rune)
			}
		}
	}
	return some, letters
}

// around are tokens with an open token and a close around them.
func around(first api.Token, l []api.Token) []api.Token {
	return slices.Concat([]api.Token{first}, l, []api.Token{{Kind: api.Close}})
}

// checkKids holds a node against one with the same tokens that was made anew: texts side by side are one in both.
func checkKids(t *testing.T, n *tree.Node, whole []api.Token) {
	t.Helper()
	if !token.Same(n.Whole(), whole) || n.Size() != len(whole) {
		t.Fatalf("%v, not %v", n.Whole(), whole)
	}
	var again func(n *tree.Node) []*tree.Node
	again = func(n *tree.Node) []*tree.Node {
		var l []*tree.Node
		for i := range n.Kids() {
			l = append(l, again(n.Kid(i))...)
		}
		if !n.Leaf() {
			return []*tree.Node{tree.Make(n.Whole()[0], l...)}
		}
		for _, x := range n.Whole() {
			l = append(l, tree.Make(x))
		}
		return l
	}
	if other := again(n)[0]; !tree.Same(n, other) || n.Kids() != other.Kids() || n.Height() != other.Height() {
		t.Fatalf("%v has other kids", whole)
	}
}

// P15.1, P15.3, P15.4: all cuts of nodes by chance; the nodes stay as they are.
func TestCutByChance(t *testing.T) {
	chance := rand.New(rand.NewPCG(15, 4))
	count := 0
	for range 500 {
		n := byChance(chance)
		whole, l := n.Whole(), n.Tokens()
		if len(l) > 60 {
			continue
		}
		for from := range len(l) + 1 {
			for to := from; to <= len(l); to++ {
				want, letters := left(l, from, to)
				c, e := Cut(n, from, to)
				if e != api.OK {
					t.Fatal(from, to, e)
				}
				checkKids(t, c, around(whole[0], want))
				if got := Texts(n, from, to); !slices.Equal(got, letters) {
					t.Fatal(l, from, to, string(got))
				}
				count++
			}
		}
		if c, _ := Cut(n, 0, len(l)); c != n || !token.Same(n.Whole(), whole) {
			t.Fatal(l)
		}
	}
	if count < 30000 {
		t.Error(count)
	}
}

// P15.1: what is joined of nodes by chance, and of the two halves of a cut.
func TestJoinByChance(t *testing.T) {
	chance := rand.New(rand.NewPCG(15, 5))
	for range 5000 {
		a, b := byChance(chance), byChance(chance)
		first, l, m := a.Whole()[0], a.Tokens(), b.Tokens()
		checkKids(t, Join(a, b), around(first, slices.Concat(l, m)))
		if !token.Same(a.Tokens(), l) || !token.Same(b.Tokens(), m) {
			t.Fatal(a, b)
		}
		at := 0
		for i := range a.Kids() {
			at += a.Kid(i).Size()
			x, _ := Cut(a, 0, at)
			y, _ := Cut(a, at, len(l))
			if !tree.Same(Join(x, y), a) {
				t.Fatal(l, at)
			}
		}
	}
}

// changed is a node of which a little is another one; much of it is the very same nodes, or made anew.
func changed(chance *rand.Rand, n *tree.Node) *tree.Node {
	var l []*tree.Node
	for i := range n.Kids() {
		kid := n.Kid(i)
		switch k := chance.IntN(20); {
		case k < 8 || kid.Leaf() && k < 16:
			l = append(l, kid)
		case k < 16:
			l = append(l, changed(chance, kid))
		case k == 16:
			l = append(l, kidsByChance(chance, 1, 2)...)
		case k == 17:
			l = append(append(l, kidsByChance(chance, 1, 1)...), kid)
		case k == 18:
			x := kid.Whole()[0]
			x.Attr ^= 1
			l = append(l, tree.Make(x, within.List(kid)...))
		}
	}
	return tree.Make(n.Whole()[0], l...)
}

// same is how many tokens are the same from the front on, and from the back.
func same(a, b []api.Token) (int, int) {
	least := min(len(a), len(b))
	start, end := 0, 0
	for start < least && a[start] == b[start] {
		start++
	}
	for end < least && a[len(a)-1-end] == b[len(b)-1-end] {
		end++
	}
	return start, end
}

// P15.2, P15.4: where nodes by chance differ, from both ends.
func TestStartAndEndByChance(t *testing.T) {
	chance := rand.New(rand.NewPCG(15, 6))
	counts := map[bool]int{}
	deep := 0
	for range 40000 {
		a := byChance(chance)
		b := changed(chance, a)
		if chance.IntN(20) == 0 {
			b = byChance(chance)
		}
		l, m := a.Tokens(), b.Tokens()
		differ := !slices.Equal(l, m)
		start, end := same(l, m)
		i, j := len(l)-end, len(m)-end
		if !differ {
			start = 0
		} else if start > 3 {
			deep++
		}
		if at, ok := Start(a, b); at != start || ok != differ {
			t.Fatal(l, m, at, ok)
		}
		if at, to, ok := End(a, b); at != i || to != j || ok != differ {
			t.Fatal(l, m, at, to, ok)
		}
		counts[differ]++
	}
	if counts[true] < 15000 || counts[false] < 10000 || deep < 5000 {
		t.Error(counts, deep)
	}
}

// P15.1, P15.2: nodes may be made of tokens that may not be, of which all is kept, and told apart.
func TestOddTokens(t *testing.T) {
	odd := api.Token{Type: -7, Attr: 1 << 40, Rune: -5, Marks: api.Marks{9, 0, 65535}}
	var l []api.Token
	for _, kind := range []int{api.Open, api.Leaf, api.Char} {
		odd.Kind = kind
		l = append(l, odd)
	}
	other := l[2]
	other.Rune, other.Type = 'x', 3
	n := tree.Make(l[0], tree.Make(l[2]), tree.Make(other), tree.Make(l[0], tree.Make(l[1]), tree.Make(l[2])), tree.Make(l[2]))
	row := n.Tokens()
	for from := range len(row) + 1 {
		for to := from; to <= len(row); to++ {
			want, letters := left(row, from, to)
			c, _ := Cut(n, from, to)
			checkKids(t, c, around(l[0], want))
			if !slices.Equal(Texts(n, from, to), letters) {
				t.Error(from, to)
			}
		}
	}
	checkKids(t, Join(n, n), around(l[0], slices.Concat(row[:6], []api.Token{l[2], l[2], other}, row[2:])))
	for i, one := range l {
		for _, change := range []func(x *api.Token){func(x *api.Token) { x.Type++ }, func(x *api.Token) { x.Attr-- }, func(x *api.Token) { x.Rune++ }, func(x *api.Token) { x.Marks[7]++ }} {
			another := one
			change(&another)
			a, b := tree.Make(open(1, 0), tree.Make(one)), tree.Make(open(1, 0), tree.Make(another))
			size := one.Kind
			if size = len(a.Tokens()); size != []int{2, 1, 1}[i] {
				t.Fatal(size)
			}
			if at, ok := Start(a, b); at != 0 || !ok {
				t.Error(one, another, at, ok)
			}
			if at, to, ok := End(a, b); at != 1 || to != 1 || !ok {
				t.Error(one, another, at, to, ok)
			}
		}
	}
}

// P15.1 to P15.3: nodes that are deep, or have many tokens in few nodes.
func TestGreat(t *testing.T) {
	const deep = 1 << 15
	a, b := tree.Make(letter('x')), tree.Make(letter('y'))
	for range deep {
		a, b = tree.Make(open(2, 0), a, tree.Make(leaf(4))), tree.Make(open(2, 0), b, tree.Make(leaf(4)))
	}
	if at, ok := Start(a, b); at != deep-1 || !ok {
		t.Error(at, ok)
	}
	if i, j, ok := End(a, b); i != deep || j != deep || !ok {
		t.Error(i, j, ok)
	}
	c, e := Cut(a, deep-1, deep)
	if e != api.OK || c.Size() != 2*deep+1 || c.Height() != deep+1 || string(Texts(a, 0, 2*deep)) != "x" {
		t.Error(c.Size(), e)
	}
	// What stands in a node twice is there once.
	x, y := tree.Make(letter('x')), tree.Make(letter('y'))
	n := x
	for range 60 {
		n = tree.Make(open(2, 0), n, n)
	}
	half := n.Kid(0).Size()
	if c, e := Cut(n, half-60, half+60); e != api.OK || len(c.Tokens()) != 2*(59+1+59) {
		t.Error(len(c.Tokens()), e)
	}
	if l := Texts(n, half-60, half+60); string(l) != "xx" {
		t.Error(string(l))
	}
	if at, ok := Start(Join(n, tree.Make(open(2, 0), y)), Join(n, tree.Make(open(2, 0), y, y))); at != n.Size()-1 || !ok {
		t.Error(at, ok)
	}
	many := tree.Make(open(2, 0), slices.Repeat([]*tree.Node{x}, 1<<17)...)
	if c, e := Cut(many, 1, 1<<17-1); e != api.OK || c.Size() != 1<<17 || c.Kids() != 1 || len(Texts(many, 7, 1<<16)) != 1<<16-7 {
		t.Error(c.Size(), e)
	}
}

// P15.1, P3: nodes all of which is between are handed on as they are.
func TestHandedOn(t *testing.T) {
	n := built(t, made(t), `<p "ab > *hr <h <p "c > <p > "d > "ef`)
	h := n.Kid(2)
	c, _ := Cut(n, 0, 10)
	if c.Kids() != 3 || c.Kid(0) != n.Kid(0) || c.Kid(1) != n.Kid(1) || c.Kid(2).Kids() != 2 || c.Kid(2).Kid(0) != h.Kid(0) || c.Kid(2).Kid(1).Size() != 2 {
		t.Error(c.Tokens())
	}
	c, _ = Cut(n, 9, 14)
	if c.Kids() != 2 || c.Kid(0).Kids() != 2 || c.Kid(0).Kid(1) != h.Kid(2) || c.Kid(1) == n.Kid(3) {
		t.Error(c.Tokens())
	}
	if c, _ = Cut(n, 1, 15); c.Kid(0) != n.Kid(0) || c.Kid(2) != h || c.Kid(3) != n.Kid(3) {
		t.Error(c.Tokens())
	}
	if j := Join(h, n); j.Kid(0) != h.Kid(0) || j.Kid(2) != h.Kid(2) || j.Kid(4) != n.Kid(1) {
		t.Error(j.Tokens())
	}
}

// P3: what is answered is new, but nodes, which stay as they are.
func TestShares(t *testing.T) {
	s := made(t)
	const line = `<p "abc b"d > <h=1 "e > "f`
	n := built(t, s, line)
	p := n.Kid(0)
	for range 2 {
		c, _ := Cut(n, 2, 8)
		j := Join(p, n.Kid(1))
		if shown(t, s, c) != `<p "bc b"d > <h=1 "e >` || shown(t, s, j) != `"abc b"d "e` {
			t.Error(shown(t, s, c), shown(t, s, j))
		}
		for _, l := range [][]rune{Texts(n, 0, 10), Texts(p, 0, 3), c.Kid(0).Kid(0).Text()} {
			_ = append(l, 'z')
			clear(l)
		}
		clear(c.Tokens())
		clear(j.Tokens())
		if shown(t, s, n) != line || n.Kid(0) != p || string(Texts(n, 0, 10)) != "abcdef" {
			t.Error(shown(t, s, n))
		}
	}
}
