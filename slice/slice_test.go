package slice

import (
	"math/rand/v2"
	"slices"
	"testing"

	"stet/api"
	"stet/schema"
	"stet/spot"
	"stet/token"
	"stet/tree"
)

// made is the schema that the tests know: doc is 1, q 2, p 3, hr 4, br 5; b is the mark 0, link 1.
func made(t testing.TB) *schema.Schema {
	t.Helper()
	s, e := schema.New("mark b\nmark link val=9\nnode doc : (q|p|hr)*\nnode q attr=9 : (q|p|hr)*\nnode p marks=* : (text|br)*\nnode hr\nnode br inline\n")
	if e != api.OK {
		t.Fatal(e)
	}
	return s
}

// parsed are a line's tokens.
func parsed(t testing.TB, s *schema.Schema, line string) []api.Token {
	t.Helper()
	l, at, e := token.Parse(s, line)
	if e != api.OK {
		t.Fatal(line, at, e)
	}
	return l
}

// built is a line's tree.
func built(t testing.TB, s *schema.Schema, line string) *tree.Node {
	t.Helper()
	n, e := tree.Build(s, parsed(t, s, line))
	if e != api.OK {
		t.Fatal(line, e)
	}
	return n
}

// line is tokens' line.
func line(t testing.TB, s *schema.Schema, l []api.Token) string {
	t.Helper()
	w, ok := token.Show(s, l)
	if !ok {
		t.Fatal(l)
	}
	return w
}

// same tells whether two slices are the same.
func same(a, b Slice) bool {
	return token.Same(a.Tokens, b.Tokens) && a.Left == b.Left && a.Right == b.Right
}

// openness is how open a row is: of each token it is asked alone whether one shuts it, or it shuts one.
func openness(l []api.Token) (left, right int) {
	shut := make([]bool, len(l))
	for i, t := range l {
		if t.Kind != api.Close {
			continue
		}
		k := i - 1
		for k >= 0 && (l[k].Kind != api.Open || shut[k]) {
			k--
		}
		if k < 0 {
			left++
		} else {
			shut[k] = true
		}
	}
	for i, t := range l {
		if t.Kind == api.Open && !shut[i] {
			right++
		}
	}
	return left, right
}

// P20.1: the example, and how open rows are.
func TestOf(t *testing.T) {
	s := made(t)
	for row, want := range map[string][2]int{
		`> <p "a`: {1, 1}, ``: {}, `"ab`: {}, `*hr`: {}, `<p >`: {}, `>`: {1, 0}, `<q`: {0, 1}, `> >`: {2, 0}, `<q <q`: {0, 2},
		`> <q`: {1, 1}, `<q >`: {}, `<q > >`: {1, 0}, `<q <p >`: {0, 1}, `> <q > >`: {2, 0}, `<q > <q`: {0, 1}, `<q <p > <p > > >`: {1, 0}, `<q <p > <p > <p`: {0, 2},
		`"a > *hr <q=3 <p b"x > > > <q <p *br`: {2, 2}, `> > <q <q > > > <q > <q`: {3, 1},
	} {
		l := parsed(t, s, row)
		x, e := Of(s, l)
		if e != api.OK || x.Left != want[0] || x.Right != want[1] || !token.Same(x.Tokens, l) {
			t.Errorf("%q: %v, %v", row, x, e)
		}
		if flat := Flat(l); flat != (want == [2]int{}) {
			t.Errorf("%q: %v", row, flat)
		}
	}
}

// P20.1: the errors, the first one ahead.
func TestOfErrors(t *testing.T) {
	s := made(t)
	most := slices.Repeat([]api.Token{{Kind: api.Open, Type: 2}}, api.MaxSize+1)
	wrong := slices.Clone(most)
	wrong[7].Attr = 10
	for _, x := range []struct {
		s    *schema.Schema
		l    []api.Token
		want api.Errno
	}{
		{nil, nil, api.ErrNil}, {nil, wrong, api.ErrNil}, {nil, most[:3], api.ErrNil},
		{s, most, api.ErrLong}, {s, wrong, api.ErrLong}, {s, wrong[:20000], api.ErrArg}, {s, wrong[:8], api.ErrArg}, {s, wrong[7:8], api.ErrArg},
		{s, []api.Token{{}}, api.ErrArg}, {s, []api.Token{{Kind: api.Open}}, api.ErrArg}, {s, []api.Token{{Kind: api.Close, Type: 1}}, api.ErrArg}, {s, []api.Token{{Kind: api.Leaf, Type: 2}}, api.ErrArg}, {s, token.Text('a', 55296), api.ErrArg},
		{s, most[:20000], api.OK}, {s, wrong[:7], api.OK}, {s, nil, api.OK},
	} {
		got, e := Of(x.s, x.l)
		if e != x.want || e != api.OK && !same(got, Slice{}) || e == api.OK && (got.Left != 0 || got.Right != len(x.l) || len(got.Tokens) != len(x.l)) {
			t.Error(len(x.l), e, x.want)
		}
	}
}

// P20.1: of each token its kind alone tells whether a row is flat.
func TestFlat(t *testing.T) {
	open, shut := api.Token{Kind: api.Open, Type: -1, Rune: 'a'}, api.Token{Kind: api.Close, Type: 9, Attr: 3}
	for _, x := range []struct {
		l    []api.Token
		want bool
	}{
		{nil, true}, {[]api.Token{}, true}, {[]api.Token{{}}, true}, {[]api.Token{{Kind: -1}, {Kind: 5}, {Kind: 1 << 32}, {Kind: 1<<32 + 1}, {Kind: 1<<32 + 2}}, true},
		{[]api.Token{open}, false}, {[]api.Token{shut}, false}, {[]api.Token{open, shut}, true}, {[]api.Token{shut, open}, false},
		{[]api.Token{open, {Kind: 7}, shut, {}}, true}, {[]api.Token{open, shut, shut, open}, false}, {[]api.Token{open, open, shut, shut}, true}, {[]api.Token{open, shut, open, shut}, true}, {[]api.Token{open, open, shut}, false}, {[]api.Token{open, shut, shut}, false}, {[]api.Token{shut, open, open, shut}, false},
	} {
		if got := Flat(x.l); got != x.want {
			t.Error(x.l, got)
		}
	}
}

// P20.2: slices of a tree, and what leads them.
func TestCut(t *testing.T) {
	s := made(t)
	n := built(t, s, `<q=3 <p "ab b"c > <p "d > > *hr <q <q=4 > > <p *br "x >`)
	for _, x := range []struct {
		from, to   int
		want, lead string
		left       int
		right      int
	}{
		{0, 0, ``, ``, 0, 0}, {5, 5, ``, ``, 0, 0}, {19, 19, ``, ``, 0, 0},
		{0, 19, `<q=3 <p "ab b"c > <p "d > > *hr <q <q=4 > > <p *br "x >`, ``, 0, 0},
		{0, 1, `<q=3`, ``, 0, 1}, {1, 2, `<p`, ``, 0, 1}, {2, 5, `"ab b"c`, ``, 0, 0}, {3, 4, `"b`, ``, 0, 0}, {3, 5, `"b b"c`, ``, 0, 0},
		{3, 6, `"b b"c >`, `<p`, 1, 0}, {5, 6, `>`, `<p`, 1, 0}, {4, 8, `b"c > <p "d`, `<p`, 1, 1}, {4, 9, `b"c > <p "d >`, `<p`, 1, 0}, {4, 10, `b"c > <p "d > >`, `<q=3 <p`, 2, 0}, {9, 10, `>`, `<q=3`, 1, 0}, {6, 10, `<p "d > >`, `<q=3`, 1, 0},
		{8, 11, `> > *hr`, `<q=3 <p`, 2, 0}, {8, 14, `> > *hr <q <q=4 >`, `<q=3 <p`, 2, 1}, {10, 11, `*hr`, ``, 0, 0}, {11, 13, `<q <q=4`, ``, 0, 2}, {13, 15, `> >`, `<q <q=4`, 2, 0}, {13, 17, `> > <p *br`, `<q <q=4`, 2, 1}, {14, 16, `> <p`, `<q`, 1, 1}, {15, 19, `<p *br "x >`, ``, 0, 0}, {17, 19, `"x >`, `<p`, 1, 0},
	} {
		got, e := Cut(n, x.from, x.to)
		if w := line(t, s, got.Tokens); e != api.OK || w != x.want || got.Left != x.left || got.Right != x.right {
			t.Errorf("Cut(%d, %d): %q, %d, %d, %v", x.from, x.to, w, got.Left, got.Right, e)
		}
		if w := line(t, s, Lead(n, x.from, x.to)); w != x.lead {
			t.Errorf("Lead(%d, %d): %q", x.from, x.to, w)
		}
	}
}

// P20.2: the errors, the first one ahead; there is no lead then.
func TestCutErrors(t *testing.T) {
	n := built(t, made(t), `<p "ab > *hr`)
	for _, x := range []struct {
		n        *tree.Node
		from, to int
		want     api.Errno
	}{
		{nil, 0, 0, api.ErrNil}, {nil, -1, 9, api.ErrNil},
		{n.Kid(1), 0, 0, api.ErrArg}, {n.Kid(0).Kid(0), 0, 1, api.ErrArg}, {n.Kid(1), -1, 9, api.ErrArg}, {n.Kid(0).Kid(0), 3, 1, api.ErrArg},
		{n, -1, 0, api.ErrRange}, {n, -1, -1, api.ErrRange}, {n, 2, 1, api.ErrRange}, {n, 0, 6, api.ErrRange}, {n, 6, 6, api.ErrRange}, {n, 0, -1, api.ErrRange}, {n, -1 << 63, 1<<63 - 1, api.ErrRange}, {n, 0, 1 << 32, api.ErrRange}, {n, 1 << 32, 1 << 32, api.ErrRange}, {n, 1 << 32, 1<<32 + 1, api.ErrRange},
		{n.Kid(0), 0, 3, api.ErrRange}, {n.Kid(0), 0, 2, api.OK}, {n, 5, 5, api.OK},
	} {
		got, e := Cut(x.n, x.from, x.to)
		if e != x.want || e != api.OK && !same(got, Slice{}) {
			t.Error(x.from, x.to, got, e)
		}
		if l := Lead(x.n, x.from, x.to); len(l) > 0 {
			t.Error(x.from, x.to, l)
		}
	}
}

// P20.3: what is put ahead and behind.
func TestWhole(t *testing.T) {
	s := made(t)
	p, q := api.Token{Kind: api.Open, Type: 3}, api.Token{Kind: api.Open, Type: 2, Attr: 9}
	row := parsed(t, s, `"a > > <q <p "b`)
	for _, x := range []struct {
		x    Slice
		lead []api.Token
		want string
		ok   bool
	}{
		{Slice{row, 2, 2}, []api.Token{q, p}, `<q=9 <p "a > > <q <p "b > >`, true},
		{Slice{row, 2, 0}, []api.Token{p, q}, `<p <q=9 "a > > <q <p "b`, true},
		{Slice{row, 0, 3}, nil, `"a > > <q <p "b > > >`, true},
		{Slice{row, 1, -1}, []api.Token{q}, `<q=9 "a > > <q <p "b`, true},
		{Slice{row, 0, -1 << 63}, []api.Token{}, `"a > > <q <p "b`, true},
		{Slice{}, nil, ``, true},
		{Slice{nil, 1, 1}, []api.Token{p}, `<p >`, true},
		{Slice{row, 2, 2}, nil, ``, false}, {Slice{row, 2, 2}, []api.Token{q}, ``, false}, {Slice{row, 2, 2}, []api.Token{q, q, p}, ``, false},
		{Slice{row, 0, 2}, []api.Token{q}, ``, false}, {Slice{row, -1, 2}, nil, ``, false}, {Slice{row, -1, 2}, []api.Token{q}, ``, false}, {Slice{row, 1 << 32, 2}, nil, ``, false}, {Slice{row, 1<<32 + 1, 2}, []api.Token{q}, ``, false}, {Slice{row, -1 << 63, 2}, nil, ``, false},
		{Slice{row, 2, 2}, []api.Token{q, {Kind: api.Close}}, ``, false}, {Slice{row, 2, 2}, []api.Token{{Kind: api.Leaf, Type: 4}, q}, ``, false}, {Slice{row, 2, 2}, []api.Token{q, {Kind: api.Char, Rune: 'a'}}, ``, false}, {Slice{row, 1, 2}, []api.Token{{}}, ``, false}, {Slice{row, 1, 2}, []api.Token{{Kind: 1<<32 + 1}}, ``, false},
		{Slice{row, 0, 1<<63 - 1}, nil, ``, false}, {Slice{row, 0, 1 << 62}, nil, ``, false},
	} {
		l, ok := Whole(x.x, x.lead)
		if w := line(t, s, l); ok != x.ok || w != x.want {
			t.Errorf("Whole(%v, %v): %q, %v", x.x, x.lead, w, ok)
		}
	}
	// Of what leads, and of what stands in it, nothing else is asked.
	odd := api.Token{Kind: api.Open, Type: -5, Attr: 1 << 40, Rune: -1, Marks: api.Marks{7: 9}}
	if l, ok := Whole(Slice{[]api.Token{{Kind: -3}, odd}, 1, 1}, []api.Token{odd}); !ok || !slices.Equal(l, []api.Token{odd, {Kind: -3}, odd, {Kind: api.Close}}) {
		t.Error(l, ok)
	}
}

// P20.3: what a and b say of how open they are is what is told, whatever their tokens are.
func TestJoin(t *testing.T) {
	s := made(t)
	one, two := parsed(t, s, `> <p "a`), parsed(t, s, `"b > *hr`)
	for _, x := range []struct{ a, b, want Slice }{
		{Slice{}, Slice{}, Slice{}},
		{Slice{one, 1, 1}, Slice{two, 1, 0}, Slice{parsed(t, s, `> <p "ab > *hr`), 1, 0}},
		{Slice{two, 1, 0}, Slice{one, 1, 1}, Slice{slices.Concat(two, one), 2, 1}},
		{Slice{one, 1, 3}, Slice{nil, 1, 4}, Slice{one, 1, 6}},
		{Slice{one, 1, 3}, Slice{nil, 5, 4}, Slice{one, 3, 4}},
		{Slice{one, 1, 3}, Slice{nil, 3, 0}, Slice{one, 1, 0}},
		{Slice{nil, -1, -1}, Slice{two, -1, -1}, Slice{two, 0, 0}},
		{Slice{nil, -7, 2}, Slice{two, -7, 2}, Slice{two, 0, 4}},
		{Slice{nil, 2, -7}, Slice{two, 2, -7}, Slice{two, 4, 0}},
		{Slice{nil, -1 << 63, -1 << 63}, Slice{nil, -1 << 63, -1 << 63}, Slice{}},
		{Slice{nil, 1, 1 << 61}, Slice{nil, 1<<61 + 3, 2}, Slice{nil, 4, 2}},
		{Slice{nil, 1 << 61, 1<<61 + 9}, Slice{nil, 1 << 61, 1 << 61}, Slice{nil, 1 << 61, 1<<61 + 9}},
		{Slice{nil, 0, -1}, Slice{nil, 1<<62 - 1, 0}, Slice{nil, 1<<62 - 1, 0}},
	} {
		if got := Join(x.a, x.b); !same(got, x.want) {
			t.Errorf("Join(%v, %v) = %v", x.a, x.b, got)
		}
	}
}

// grown is a row by chance that is whole, and at most so deep.
func grown(chance *rand.Rand, deep int) []api.Token {
	var l []api.Token
	for range chance.IntN(4) {
		switch chance.IntN(5) {
		case 0:
			l = append(l, api.Token{Kind: api.Leaf, Type: 4})
		case 1, 2:
			if deep > 0 {
				l = slices.Concat(l, []api.Token{{Kind: api.Open, Type: 2, Attr: chance.IntN(10)}}, grown(chance, deep-1), []api.Token{{Kind: api.Close}})
			}
		default:
			l = append(l, api.Token{Kind: api.Open, Type: 3})
			for range chance.IntN(4) {
				l = append(l, api.Token{Kind: api.Char, Rune: rune('a' + chance.IntN(3)), Marks: api.Marks{uint16(chance.IntN(2))}})
				if chance.IntN(4) == 0 {
					l = append(l, api.Token{Kind: api.Leaf, Type: 5, Marks: api.Marks{0, uint16(chance.IntN(2))}})
				}
			}
			l = append(l, api.Token{Kind: api.Close})
		}
	}
	return l
}

// leadOf is the open tokens of the nodes around a position that end ahead of another one.
func leadOf(t *testing.T, n *tree.Node, from, to int) []api.Token {
	t.Helper()
	s, e := spot.At(n, from)
	if e != api.OK {
		t.Fatal(e)
	}
	var l []api.Token
	for depth := 1; depth <= s.Depth(); depth++ {
		if s.End(depth) < to {
			l = append(l, s.Around(depth).Whole()[0])
		}
	}
	return l
}

// P20.2, P20.4: all slices of trees by chance: with its lead each one is whole, and the two parts of one, joined, are it.
func TestCutsByChance(t *testing.T) {
	chance := rand.New(rand.NewPCG(20, 1))
	s := made(t)
	count := 0
	for range 300 {
		l := grown(chance, 4)
		n, e := tree.Build(s, l)
		if e != api.OK || len(l) > 60 {
			continue
		}
		for from := range len(l) + 1 {
			for to := from; to <= len(l); to++ {
				x, e := Cut(n, from, to)
				left, right := openness(l[from:to])
				if want := (Slice{l[from:to], left, right}); e != api.OK || !same(x, want) {
					t.Fatalf("Cut(%d, %d) of %v: %v, %v", from, to, l, x, e)
				}
				lead := Lead(n, from, to)
				whole, ok := Whole(x, lead)
				if !token.Same(lead, leadOf(t, n, from, to)) || !ok || !Flat(whole) {
					t.Fatalf("Lead(%d, %d) of %v: %v", from, to, l, lead)
				}
				if _, e := tree.Build(s, whole); e != api.OK {
					t.Fatal(whole, e)
				}
				mid := from + chance.IntN(to-from+1)
				a, _ := Cut(n, from, mid)
				b, _ := Cut(n, mid, to)
				if got := Join(a, b); !same(got, x) {
					t.Fatalf("%d, %d, %d of %v: %v", from, mid, to, l, got)
				}
				count++
			}
		}
	}
	if count < 20000 {
		t.Error(count)
	}
}

// P20.1, P20.3, P20.4: rows by chance: what is joined is as open as its tokens say.
func TestRowsByChance(t *testing.T) {
	chance := rand.New(rand.NewPCG(20, 2))
	s := made(t)
	row := func() []api.Token {
		some := []api.Token{{Kind: api.Open, Type: 2}, {Kind: api.Open, Type: 3}, {Kind: api.Close}, {Kind: api.Close}, {Kind: api.Char, Rune: 'a'}}
		var l []api.Token
		for range chance.IntN(12) {
			l = append(l, some[chance.IntN(len(some))])
		}
		return l
	}
	for range 50000 {
		l, m := row(), row()
		a, e := Of(s, l)
		b, f := Of(s, m)
		if left, right := openness(l); e != api.OK || f != api.OK || a.Left != left || a.Right != right || Flat(l) != (left == 0 && right == 0) {
			t.Fatal(l, a, e, f)
		}
		both, _ := Of(s, slices.Concat(l, m))
		if got := Join(a, b); !same(got, both) {
			t.Fatal(l, m, got)
		}
		lead := slices.Repeat([]api.Token{{Kind: api.Open, Type: 2}}, a.Left)
		if whole, ok := Whole(a, lead); !ok || !Flat(whole) || len(whole) != len(l)+a.Left+a.Right {
			t.Fatal(l, whole, ok)
		}
	}
}

// P20.2: of nodes that may not be, of deep ones and of great ones, what is between is told as it is.
func TestOddNodes(t *testing.T) {
	odd := api.Token{Kind: api.Open, Type: -1, Attr: 1 << 40, Rune: 'x', Marks: api.Marks{3: 4}}
	letter, leaf := api.Token{Kind: api.Char, Type: 7, Rune: -9}, api.Token{Kind: api.Leaf, Type: 2, Rune: 5}
	n := tree.Make(odd, tree.Make(odd, tree.Make(letter), tree.Make(leaf), nil, tree.Make(letter), tree.Make(letter)), tree.Make(leaf))
	l := n.Tokens()
	for from := range len(l) + 1 {
		for to := from; to <= len(l); to++ {
			x, e := Cut(n, from, to)
			left, right := openness(l[from:to])
			lead := Lead(n, from, to)
			if !same(x, Slice{l[from:to], left, right}) || e != api.OK || len(lead) != left || left > 0 && lead[0] != odd {
				t.Error(from, to, x, e, lead)
			}
		}
	}
	deep := tree.Make(letter)
	for range 1 << 15 {
		deep = tree.Make(api.Token{Kind: api.Open, Type: 2}, deep)
	}
	mid := 1<<15 - 1
	if x, e := Cut(deep, mid, deep.Size()-2); e != api.OK || x.Left != mid || x.Right != 0 || len(x.Tokens) != mid+1 || len(Lead(deep, mid, deep.Size()-2)) != mid {
		t.Error(x.Left, x.Right, e)
	}
	great := tree.Make(letter)
	for range 50 {
		great = tree.Make(api.Token{Kind: api.Open, Type: 2}, great, great)
	}
	for _, from := range []int{0, 3, 50, great.Size() / 2, great.Size() - 60} {
		if x, e := Cut(great, from, from+55); e != api.OK || len(x.Tokens) != 55 || len(Lead(great, from, from+55)) != x.Left {
			t.Error(from, x, e)
		}
	}
}

// P3, P6: what is handed in stays, spare room too, what is answered is new, and the same each time.
func TestAgain(t *testing.T) {
	s := made(t)
	const row = `<q <p "ab > > *hr`
	l := parsed(t, s, row)
	n := built(t, s, row)
	lead := []api.Token{{Kind: api.Open, Type: 2}, {Kind: api.Open, Type: 3}, {Kind: api.Open, Type: 9}}
	for range 3 {
		x, _ := Of(s, l[2:4])
		_ = append(x.Tokens, api.Token{Kind: 9})
		clear(x.Tokens)
		if x, _ = Cut(n, 3, 6); line(t, s, x.Tokens) != `"b > >` {
			t.Fatal(x)
		}
		whole, ok := Whole(x, lead[:2])
		if !ok || line(t, s, whole) != `<q <p "b > >` {
			t.Fatal(whole)
		}
		_ = append(whole, api.Token{Kind: 9})
		clear(whole)
		both := Join(x, Slice{Tokens: l[6:], Left: 0, Right: 0})
		if line(t, s, both.Tokens) != `"b > > *hr` {
			t.Fatal(both)
		}
		_ = append(both.Tokens, api.Token{Kind: 9})
		clear(both.Tokens)
		if line(t, s, x.Tokens) != `"b > >` || line(t, s, l) != row || line(t, s, n.Tokens()) != row || lead[2].Type != 9 {
			t.Fatal(x, l, lead)
		}
		clear(x.Tokens)
		clear(Lead(n, 3, 6))
		one, two := Join(Slice{Tokens: l[:2]}, Slice{}), Join(Slice{}, Slice{Tokens: l[:2]})
		clear(one.Tokens)
		clear(two.Tokens)
		alone, _ := Whole(Slice{Tokens: l[:2]}, nil)
		clear(alone)
		alone, _ = Whole(Slice{Left: 2}, lead[:2])
		clear(alone)
		if line(t, s, l) != row || lead[0].Type != 2 {
			t.Fatal(l, lead)
		}
	}
}
