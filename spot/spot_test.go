package spot

import (
	"math/rand/v2"
	"slices"
	"testing"

	"stet/api"
	"stet/schema"
	"stet/token"
	"stet/tree"
)

// built is the tree of a line. What may stand in what isn't asked of trees.
func built(t testing.TB, line string) *tree.Node {
	t.Helper()
	s, e := schema.New("mark b\nnode doc :\nnode p marks=* :\nnode h attr=9 :\nnode hr\nnode br inline\n")
	if e != api.OK {
		t.Fatal(e)
	}
	l, at, e := token.Parse(s, line)
	if e != api.OK {
		t.Fatal(line, at, e)
	}
	n, e := tree.Build(s, l)
	if e != api.OK {
		t.Fatal(line, e)
	}
	return n
}

// found is the spot of a position that there is.
func found(t testing.TB, n *tree.Node, position int) Spot {
	t.Helper()
	s, e := At(n, position)
	if e != api.OK {
		t.Fatal(position, e)
	}
	return s
}

// P16.2, P16.3: the example.
func TestExample(t *testing.T) {
	n := built(t, `<p "ab >`)
	s := found(t, n, 2)
	if s.Position() != 2 || s.Depth() != 1 || s.Around(1) != n.Kid(0) || s.Start(1) != 1 || s.End(1) != 3 || s.Inset() != 1 || string(s.Ahead().Text()) != "a" || string(s.Behind().Text()) != "b" {
		t.Error(s)
	}
	if s.Parent() != n.Kid(0) || s.Around(0) != n || s.Start(0) != 0 || s.End(0) != 4 || s.Place(0) != 0 || s.Place(1) != 0 {
		t.Error(s)
	}
}

// P16.1: each error, and which one is told; with one the spot is zero.
func TestErrors(t *testing.T) {
	n := built(t, `<p "ab > *hr <p >`)
	p := n.Kid(0)
	far := []int{-1 << 63, -1 << 32, -1, 0, 1, 2, 3, 7, 8, 1 << 32, 1<<32 + 1, 1<<63 - 1}
	for _, x := range []struct {
		n    *tree.Node
		last int
		want api.Errno
	}{{nil, 0, api.ErrNil}, {n.Kid(1), 0, api.ErrArg}, {p.Kid(0), 0, api.ErrArg}, {n, 7, api.ErrRange}, {p, 2, api.ErrRange}, {n.Kid(2), 0, api.ErrRange}} {
		for _, position := range far {
			want := x.want
			if want == api.ErrRange && position >= 0 && position <= x.last {
				want = api.OK
			}
			s, e := At(x.n, position)
			if e != want || (s == Spot{}) != (e != api.OK) {
				t.Errorf("%d: %v, %v", position, s, e)
			}
		}
	}
}

// P16.1, P16.2: of a zero spot, and of depths at which there is none.
func TestNone(t *testing.T) {
	var zero Spot
	n := built(t, `<p <h "ab > >`)
	spots := []Spot{zero, found(t, n, 0), found(t, n, 1), found(t, n, 3)}
	for _, s := range spots {
		for _, depth := range []int{-1 << 63, -1, s.Depth() + 1, 40, 41, 42, 1 << 32, 1<<32 + 1, 1<<63 - 1} {
			if s.Around(depth) != nil || s.Place(depth) != 0 || s.Start(depth) != 0 || s.End(depth) != 0 {
				t.Error(s, depth)
			}
		}
		for _, position := range []int{-1 << 63, -1, 7, 1 << 32, 1<<63 - 1} {
			if s.Shared(position) != 0 {
				t.Error(s, position)
			}
		}
	}
	if zero.Position() != 0 || zero.Depth() != 0 || zero.Inset() != 0 || zero.Around(0) != nil || zero.Place(0) != 0 || zero.Start(0) != 0 || zero.End(0) != 0 || zero.Parent() != nil || zero.Ahead() != nil || zero.Behind() != nil || zero.Shared(0) != 0 {
		t.Error(zero)
	}
}

// P16.2: a number that counts for one node counts from its own begin, whatever type it has.
func TestWithin(t *testing.T) {
	n := built(t, `<p "a <h "bc > > *hr`)
	p := n.Kid(0)
	for position := range p.Size() - 1 {
		inner, outer := found(t, p, position), found(t, n, position+1)
		if inner.Depth() != outer.Depth()-1 || inner.Parent() != outer.Parent() || inner.Inset() != outer.Inset() || inner.Around(0) != p {
			t.Error(position)
		}
		for depth := range inner.Depth() + 1 {
			if inner.Around(depth) != outer.Around(depth+1) || inner.Place(depth) != outer.Place(depth+1) || inner.Start(depth) != outer.Start(depth+1)-1 || inner.End(depth) != outer.End(depth+1)-1 {
				t.Error(position, depth)
			}
		}
	}
}

// one is a node, and where it begins and ends within the top one.
type one struct {
	n, up    *tree.Node
	from, to int
}

// laid puts a node, and all in it, behind others.
func laid(l []one, n, up *tree.Node, from int) []one {
	l = append(l, one{n, up, from, from + n.Size()})
	at := from + 1
	for i := range n.Kids() {
		l = laid(l, n.Kid(i), n, at)
		at += n.Kid(i).Size()
	}
	return l
}

// checkSpot holds a spot against all nodes of a tree, the top one ahead.
func checkSpot(t *testing.T, all []one, position int) {
	t.Helper()
	s := found(t, all[0].n, position)
	var around []one
	inset, ahead, behind := 0, []api.Token(nil), []api.Token(nil)
	for _, x := range all {
		if x.from < position && position < x.to {
			if x.n.Leaf() {
				inset = position - x.from
				ahead, behind = x.n.Whole()[:inset], x.n.Whole()[inset:]
			} else {
				around = append(around, x)
			}
		}
	}
	depth := len(around) - 1
	parent := around[depth].n
	if s.Position() != position || s.Depth() != depth || s.Inset() != inset || s.Parent() != parent {
		t.Fatal(position, s.Position(), s.Depth(), s.Inset())
	}
	place := make([]int, depth+1)
	for _, x := range all[1:] {
		for i, up := range around {
			if x.up == up.n && x.to <= position && x.from >= up.from && x.to <= up.to {
				place[i]++
			}
		}
		if x.up != parent {
			continue
		}
		if x.to == position && s.Ahead() != x.n || x.from == position && s.Behind() != x.n {
			t.Fatal(position, x)
		}
		if x.to == position {
			ahead = x.n.Whole()
		}
		if x.from == position {
			behind = x.n.Whole()
		}
	}
	if !token.Same(s.Ahead().Whole(), ahead) || !token.Same(s.Behind().Whole(), behind) || (s.Ahead() == nil) != (ahead == nil) || (s.Behind() == nil) != (behind == nil) {
		t.Fatal(position, s.Ahead(), s.Behind())
	}
	for i, x := range around {
		if s.Around(i) != x.n || s.Start(i) != x.from+1 || s.End(i) != x.to-1 || s.Place(i) != place[i] {
			t.Fatal(position, i, s.Start(i), s.End(i), s.Place(i))
		}
		// What is around is in each other.
		if i > 0 && s.Around(i-1).Kid(s.Place(i-1)) != x.n || position < s.Start(i) || position > s.End(i) {
			t.Fatal(position, i)
		}
	}
	if s.Around(depth+1) != nil || s.Around(-1) != nil {
		t.Fatal(position)
	}
	for other := -2; other < all[0].to+3; other++ {
		want := 0
		for i, x := range around {
			if x.from < other && other < x.to {
				want = i
			}
		}
		if got := s.Shared(other); got != want {
			t.Fatal(position, other, got)
		}
	}
}

// checkTree holds all spots of a tree against its nodes.
func checkTree(t *testing.T, n *tree.Node) {
	t.Helper()
	all := laid(nil, n, nil, -1)
	for position := range n.Size() - 1 {
		checkSpot(t, all, position)
	}
}

// P16.2 to P16.4: some trees.
func TestTrees(t *testing.T) {
	for _, line := range []string{"", "*hr", `"a`, `"abc`, "<p >", "<p > <p >", `<p "ab > *hr`, `"a <p "bc b"d *br "e > "f <h=2 > "gh`, `<h <p <p "a > > <h <p > *hr > > *br b"bcd`, `*hr *hr <p *br *br > *hr`, `b"ab "ab b"ab *br b"ab`} {
		checkTree(t, built(t, line))
	}
}

// kidsByChance are nodes, none of which is the very same as another one.
func kidsByChance(chance *rand.Rand, deep, most int) []*tree.Node {
	var l []*tree.Node
	for range chance.IntN(most + 1) {
		switch k := chance.IntN(7); {
		case k < 3 && deep > 0:
			l = append(l, tree.Make(api.Token{Kind: api.Open, Type: 2 + chance.IntN(2), Attr: k}, kidsByChance(chance, deep-1, most)...))
		case k == 3:
			l = append(l, tree.Make(api.Token{Kind: api.Leaf, Type: 4}))
		default:
			l = append(l, tree.Make(api.Token{Kind: api.Char, Rune: rune('a' + chance.IntN(3)), Marks: api.Marks{uint16(chance.IntN(5) / 4)}}))
		}
	}
	return l
}

// P16.2 to P16.4: all spots of trees by chance.
func TestByChance(t *testing.T) {
	chance := rand.New(rand.NewPCG(16, 4))
	count := 0
	for range 2000 {
		n := tree.Make(api.Token{Kind: api.Open, Type: 1}, kidsByChance(chance, 4, 5)...)
		if n.Size() > 90 {
			continue
		}
		was := n.Whole()
		checkTree(t, n)
		count += n.Size()
		if !token.Same(n.Whole(), was) {
			t.Fatal(was)
		}
	}
	if count < 15000 {
		t.Error(count)
	}
}

// chain is a node with so many in each other, beside which something stands each time.
func chain(deep int) *tree.Node {
	n := tree.Make(api.Token{Kind: api.Open, Type: 3})
	for i := range deep {
		l := []*tree.Node{tree.Make(api.Token{Kind: api.Leaf, Type: 4}), n, tree.Make(api.Token{Kind: api.Char, Rune: 'a'}), tree.Make(api.Token{Kind: api.Char, Rune: 'b'})}
		n = tree.Make(api.Token{Kind: api.Open, Type: 2, Attr: i}, l[i%2:]...)
	}
	return n
}

// P16.1, P16.2: as deep as a document may be, and deeper.
func TestDeep(t *testing.T) {
	for _, deep := range []int{api.MaxNest - 1, api.MaxNest, api.MaxNest + 1, api.MaxNest + 2, 2*api.MaxNest + 5} {
		checkTree(t, chain(deep))
	}
	const deep = 1 << 15
	n := chain(deep)
	at := deep + deep/2
	s := found(t, n, at)
	if s.Depth() != deep || s.Parent().Type() != 3 || s.Start(deep) != at || s.End(deep) != at || s.Start(deep/2) != at/2 || s.Around(deep-1).Attr() != 0 || s.Around(1).Attr() != deep-2 {
		t.Error(s.Depth(), s.Start(deep), s.Start(deep/2))
	}
	if s.Around(deep).Size() != 2 || s.Around(deep+1) != nil || s.Shared(at+1) != deep-1 || s.Shared(at-1) != deep-1 || s.Shared(0) != 0 || s.Shared(at) != deep {
		t.Error(s.Shared(at+1), s.Shared(at-1))
	}
	// What stands in a node twice is there once.
	n = tree.Make(api.Token{Kind: api.Char, Rune: 'x'})
	for range 60 {
		n = tree.Make(api.Token{Kind: api.Open, Type: 2}, n, n)
	}
	half := n.Kid(0).Size()
	s = found(t, n, half+60)
	if s.Depth() != 60-1 || s.Inset() != 1 || s.Place(0) != 1 || s.Place(1) != 0 || s.Start(0) != 0 || s.End(1) != 2*half-1 || s.Shared(half) != 0 || s.Shared(half+1) != 1 {
		t.Error(s.Depth(), s.Inset(), s.Place(0))
	}
}

// P16.3: the letters of a text keep all that they have, and its halves are new nodes, while the text stays.
func TestHalves(t *testing.T) {
	var kids []*tree.Node
	for i := range 4 {
		kids = append(kids, tree.Make(api.Token{Kind: api.Char, Type: i, Attr: -i, Rune: rune(-i), Marks: api.Marks{7, 8}}))
	}
	n := tree.Make(api.Token{Kind: api.Open, Type: 1}, kids...)
	was := n.Tokens()
	for i := range 5 {
		s := found(t, n, i)
		if !token.Same(s.Ahead().Whole(), was[:i]) || !token.Same(s.Behind().Whole(), was[i:]) || s.Place(0) != i/4 {
			t.Error(i, s.Ahead().Whole(), s.Behind().Whole())
		}
		_ = append(s.Ahead().Text(), 9)
		clear(s.Ahead().Whole())
	}
	if !token.Same(n.Tokens(), was) {
		t.Error(n.Tokens())
	}
}

// P4: a spot is copied by =.
func TestValue(t *testing.T) {
	n := built(t, `<p <h "ab > > *hr`)
	tell := func(s Spot) []int {
		l := []int{s.Position(), s.Depth(), s.Inset(), s.Shared(4)}
		for depth := range 4 {
			l = append(l, s.Place(depth), s.Start(depth), s.End(depth))
		}
		return l
	}
	s := found(t, n, 3)
	was := tell(s)
	other := s
	if other != s || found(t, n, 3) != s || found(t, n, 2) == s {
		t.Error("not the same")
	}
	other = found(t, n, 6)
	if !slices.Equal(tell(s), was) || slices.Equal(tell(other), was) || s.Parent() != n.Kid(0).Kid(0) || other.Parent() != n {
		t.Error(tell(s), tell(other))
	}
}
