package tree

import (
	"math/rand/v2"
	"slices"
	"strings"
	"testing"

	"stet/api"
	"stet/schema"
	"stet/token"
)

// made is the schema that the tests know: doc is 1, p 2, h 3, hr 4, br 5. What may stand in what isn't asked of trees.
func made(t testing.TB) *schema.Schema {
	t.Helper()
	s, e := schema.New("mark b\nmark link val=9\nnode doc :\nnode p marks=* :\nnode h attr=9 :\nnode hr attr=2\nnode br inline\n")
	if e != api.OK {
		t.Fatal(e)
	}
	return s
}

// row is a line's tokens.
func row(t testing.TB, s *schema.Schema, line string) []api.Token {
	t.Helper()
	l, at, e := token.Parse(s, line)
	if e != api.OK {
		t.Fatal(line, at, e)
	}
	return l
}

// built is a line's tree.
func built(t testing.TB, s *schema.Schema, line string) *Node {
	t.Helper()
	n, e := Build(s, row(t, s, line))
	if e != api.OK {
		t.Fatal(line, e)
	}
	return n
}

// open is an open token, shut a close, letter a letter with marks.
func open(typ, attr int) api.Token { return api.Token{Kind: api.Open, Type: typ, Attr: attr} }

func shut() api.Token { return api.Token{Kind: api.Close} }

func letter(r rune, m ...uint16) api.Token {
	t := api.Token{Kind: api.Char, Rune: r}
	copy(t.Marks[:], m)
	return t
}

// P14.1, P14.2: the example.
func TestExample(t *testing.T) {
	s := made(t)
	doc := built(t, s, `<p "ab b"c >`)
	p := doc.Kid(0)
	if doc.Kids() != 1 || p.Type() != 2 || p.Kids() != 2 || p.Size() != 5 || p.Height() != 2 || doc.Size() != 7 || doc.Height() != 3 {
		t.Error(doc)
	}
	if ab, c := p.Kid(0), p.Kid(1); string(ab.Text()) != "ab" || ab.Marks() != (api.Marks{}) || string(c.Text()) != "c" || c.Marks() != (api.Marks{1}) || ab.Size() != 2 || ab.Height() != 1 {
		t.Error(p)
	}
}

// P14.1: each error, and which one is told.
func TestErrors(t *testing.T) {
	s := made(t)
	whole := row(t, s, `<p "a >`)
	long := slices.Repeat(token.Text('x'), api.MaxSize+1)
	wrong := []api.Token{{}, letter(-1), open(4, 0), {Kind: api.Leaf, Type: 2}, {Kind: api.Close, Attr: 1}, letter('a', 2), open(3, 10), {Kind: 5}}
	check := func(s *schema.Schema, l []api.Token, want api.Errno) {
		t.Helper()
		if n, e := Build(s, l); (n != nil) != (want == api.OK) || e != want {
			t.Errorf("%.300v: %v", l, e)
		}
	}
	check(nil, nil, api.ErrNil)
	check(nil, whole, api.ErrNil)
	check(nil, long, api.ErrNil)
	check(s, long, api.ErrLong)
	check(s, long[1:], api.OK)
	check(s, append(slices.Clone(long), wrong[0], shut()), api.ErrLong)
	check(s, nil, api.OK)
	check(s, []api.Token{}, api.OK)
	for _, x := range wrong {
		for i := range len(whole) + 1 {
			check(s, slices.Insert(slices.Clone(whole), i, x), api.ErrArg)
			check(s, append(slices.Insert(slices.Clone(whole), i, x), shut()), api.ErrArg)
		}
		check(s, []api.Token{shut(), x}, api.ErrArg)
		check(s, append(slices.Clone(long[2:]), x, open(1, 0)), api.ErrLong)
		check(s, append(slices.Clone(long[2:]), x), api.ErrArg)
	}
	for line, want := range map[string]api.Errno{
		">": api.ErrOpen, "<p": api.ErrOpen, "> <p": api.ErrOpen, "<p > >": api.ErrOpen, "<p <p >": api.ErrOpen, "<p > > <p": api.ErrOpen, `"a >`: api.ErrOpen, `<p "a`: api.ErrOpen, "*hr <h=9": api.ErrOpen, "> *hr <p >": api.ErrOpen,
		"<p >": api.OK, "<p <p > > <p >": api.OK, `"a`: api.OK, "*hr": api.OK, `"a <p > "a`: api.OK, "<doc <doc > >": api.OK,
	} {
		check(s, row(t, s, line), want)
	}
}

// P14.1: how deep a row may be, wherever it is.
func TestDeep(t *testing.T) {
	s := made(t)
	deep := func(n int, behind ...api.Token) []api.Token {
		l := slices.Repeat([]api.Token{open(2, 0)}, n)
		return append(append(l, behind...), slices.Repeat([]api.Token{shut()}, n)...)
	}
	for _, x := range []struct {
		l    []api.Token
		want api.Errno
	}{
		{deep(api.MaxNest), api.OK},
		{deep(api.MaxNest, token.Text('a', 'b')...), api.OK},
		{append(deep(api.MaxNest), deep(api.MaxNest)...), api.OK},
		{deep(api.MaxNest-1, append(deep(1), deep(1)...)...), api.OK},
		{deep(api.MaxNest + 1), api.ErrOpen},
		{append(deep(api.MaxNest), deep(api.MaxNest+1)...), api.ErrOpen},
		{deep(api.MaxNest-1, append(deep(1), deep(2)...)...), api.ErrOpen},
		{slices.Repeat([]api.Token{open(2, 0)}, api.MaxNest), api.ErrOpen},
		{deep(api.MaxSize / 2), api.ErrOpen},
	} {
		n, e := Build(s, x.l)
		if e != x.want || (n == nil) != (e != api.OK) {
			t.Errorf("%d: %v", len(x.l), e)
		}
		if e == api.OK && !token.Same(n.Tokens(), x.l) {
			t.Error(len(x.l))
		}
	}
	n, _ := Build(s, deep(api.MaxNest))
	for h := api.MaxNest + 1; h > 0; h-- {
		if n.Height() != h || n.Size() != 2*h || n.Depth() != h-1 {
			t.Error(h, n.Height(), n.Size())
		}
		n = n.Kid(0)
	}
}

// Depth is how many first kids are in each other.
func (n *Node) Depth() int {
	if n.Kids() == 0 {
		return 0
	}
	return 1 + n.Kid(0).Depth()
}

// P14.2: of nil, and of kids that there are not.
func TestNil(t *testing.T) {
	var n *Node
	if n.Type() != 0 || n.Attr() != 0 || n.Marks() != (api.Marks{}) || n.Text() != nil || n.Leaf() || n.Size() != 0 || n.Height() != 0 || n.Kids() != 0 || n.Tokens() != nil || n.Whole() != nil {
		t.Error("nil tells something")
	}
	s := made(t)
	doc := built(t, s, `<p "ab b"c > *hr`)
	leaf, text := doc.Kid(1), doc.Kid(0).Kid(0)
	for _, one := range []*Node{nil, doc, doc.Kid(0), leaf, text} {
		for _, i := range []int{-1 << 63, -1, one.Kids(), one.Kids() + 1, 1 << 32, 1<<63 - 1} {
			if one.Kid(i) != nil {
				t.Error(i)
			}
		}
		if Same(one, nil) != (one == nil) || Same(nil, one) != (one == nil) || !Same(one, one) {
			t.Error(one)
		}
	}
	for _, one := range []*Node{leaf, text} {
		if len(one.Tokens()) != 0 || !one.Leaf() || one.Kids() != 0 || one.Height() != 1 {
			t.Error(one)
		}
	}
}

// P14.2: a document without tokens is a top node without kids.
func TestEmpty(t *testing.T) {
	doc := built(t, made(t), "")
	if doc.Type() != 1 || doc.Attr() != 0 || doc.Marks() != (api.Marks{}) || doc.Text() != nil || doc.Leaf() || doc.Size() != 2 || doc.Height() != 1 || doc.Kids() != 0 || len(doc.Tokens()) != 0 || !token.Same(doc.Whole(), []api.Token{open(1, 0), shut()}) {
		t.Error(doc)
	}
}

// spans tells of tokens, that a whole row has, where each node begins and ends that is in no other one of them.
func spans(l []api.Token) [][2]int {
	var all [][2]int
	for from := 0; from < len(l); {
		to, depth := from, 0
		for {
			switch l[to].Kind {
			case api.Open:
				depth++
			case api.Close:
				depth--
			}
			to++
			more := to < len(l) && l[from].Kind == api.Char && l[to].Kind == api.Char && l[from].Marks == l[to].Marks
			if depth == 0 && !more {
				break
			}
		}
		all, from = append(all, [2]int{from, to}), to
	}
	return all
}

// checkNode holds a node against all its tokens.
func checkNode(t *testing.T, n *Node, l []api.Token) int {
	t.Helper()
	first := l[0]
	var text []rune
	var within []api.Token
	if first.Kind == api.Char {
		for _, x := range l {
			text = append(text, x.Rune)
		}
	}
	if first.Kind == api.Open {
		within = l[1 : len(l)-1]
	}
	kids := spans(within)
	if n.Type() != first.Type || n.Attr() != first.Attr || n.Marks() != first.Marks || string(n.Text()) != string(text) || n.Leaf() != (first.Kind != api.Open) || n.Size() != len(l) || n.Kids() != len(kids) || !token.Same(n.Tokens(), within) || !token.Same(n.Whole(), l) {
		t.Fatalf("%v: %+v", l, n)
	}
	height := 0
	for i, kid := range kids {
		if n.Kid(i) == nil || n.Kid(i) != n.Kid(i) {
			t.Fatal(i)
		}
		height = max(height, checkNode(t, n.Kid(i), within[kid[0]:kid[1]]))
	}
	if n.Height() != height+1 {
		t.Fatalf("%v: %d", l, n.Height())
	}
	return height + 1
}

// isWhole tells whether each close shuts an open token, and each one is shut, and none is deeper than may be.
func isWhole(l []api.Token) bool {
	depth := 0
	for _, x := range l {
		switch x.Kind {
		case api.Open:
			depth++
		case api.Close:
			depth--
		}
		if depth < 0 || depth > api.MaxNest {
			return false
		}
	}
	return depth == 0
}

// rowByChance is tokens that may be, and are whole mostly.
func rowByChance(chance *rand.Rand, n int) []api.Token {
	var l []api.Token
	depth := 0
	for range n {
		x := letter([]rune{'a', 'b', 8364}[chance.IntN(3)], []uint16{0, 0, 0, 1}[chance.IntN(4)], []uint16{0, 0, 0, 4, 5}[chance.IntN(5)])
		switch k := chance.IntN(10); {
		case k < 2:
			x = open(1+chance.IntN(3), 0)
			x.Attr = chance.IntN([]int{1, 1, 1, 10}[x.Type])
			depth++
		case k < 4 && (depth > 0 || chance.IntN(100) == 0):
			x = shut()
			depth--
		case k == 4:
			x = api.Token{Kind: api.Leaf, Type: 4, Attr: chance.IntN(3)}
		case k == 5:
			x = api.Token{Kind: api.Leaf, Type: 5, Marks: x.Marks}
		}
		l = append(l, x)
	}
	for depth > 0 && chance.IntN(50) > 0 {
		l = append(l, shut())
		depth--
	}
	return l
}

// checkRow holds what is built of a row against what should be.
func checkRow(t *testing.T, s *schema.Schema, l []api.Token) bool {
	t.Helper()
	n, e := Build(s, l)
	if !isWhole(l) {
		if n != nil || e != api.ErrOpen {
			t.Fatalf("%v: %v, %v", l, n, e)
		}
		return false
	}
	if e != api.OK {
		t.Fatalf("%v: %v", l, e)
	}
	checkNode(t, n, slices.Concat([]api.Token{open(1, 0)}, l, []api.Token{shut()}))
	return true
}

// P14.1, P14.2, P14.4: rows by chance.
func TestByChance(t *testing.T) {
	s := made(t)
	chance := rand.New(rand.NewPCG(14, 4))
	counts := map[bool]int{}
	for range 20000 {
		counts[checkRow(t, s, rowByChance(chance, chance.IntN(30)))]++
	}
	for range 100 {
		counts[checkRow(t, s, rowByChance(chance, chance.IntN(1000)))]++
	}
	if counts[true] < 15000 || counts[false] < 300 {
		t.Error(counts)
	}
}

// P14.1, P14.2: all short rows of a few tokens.
func TestAllRows(t *testing.T) {
	s := made(t)
	some := []api.Token{open(2, 0), open(3, 1), shut(), letter('a'), letter('b'), letter('a', 1), {Kind: api.Leaf, Type: 4}, {Kind: api.Leaf, Type: 5, Marks: api.Marks{1}}}
	count := 1
	for n := range 6 {
		for i := range count {
			l := make([]api.Token, n)
			for k := range l {
				l[k], i = some[i%len(some)], i/len(some)
			}
			checkRow(t, s, l)
		}
		count *= len(some)
	}
}

// P14.2, P14.4: two nodes are the same just if their tokens are.
func TestSame(t *testing.T) {
	s := made(t)
	chance := rand.New(rand.NewPCG(14, 5))
	count := 0
	var last *Node
	for range 20000 {
		l := rowByChance(chance, chance.IntN(12))
		a, e := Build(s, l)
		if e != api.OK {
			continue
		}
		other := slices.Clone(l)
		for range chance.IntN(2) {
			more := rowByChance(chance, 1)
			at := chance.IntN(len(other) + 1)
			other = slices.Replace(other, at, min(len(other), at+chance.IntN(2)), more...)
		}
		b, e := Build(s, other)
		if e != api.OK {
			continue
		}
		if same := token.Same(l, other); Same(a, b) != same || Same(b, a) != same {
			t.Fatal(l, other)
		}
		if same := last != nil && token.Same(a.Whole(), last.Whole()); Same(a, last) != same || Same(last, a) != same {
			t.Fatal(a, last)
		}
		for i := range a.Kids() {
			for k := range b.Kids() {
				x, y := a.Kid(i), b.Kid(k)
				if Same(x, y) != token.Same(x.Whole(), y.Whole()) {
					t.Fatal(x, y)
				}
			}
			if Same(a, a.Kid(i)) {
				t.Fatal(a)
			}
		}
		last = a
		count++
	}
	if count < 10000 {
		t.Error(count)
	}
}

// P14.2: each field of a token tells nodes apart.
func TestSameFields(t *testing.T) {
	for kind, length := range map[int]int{api.Open: 2, api.Leaf: 1, api.Char: 1} {
		one := api.Token{Kind: kind, Type: 2, Attr: 3, Rune: 'a', Marks: api.Marks{1, 2}}
		others := []api.Token{one, one, one, one, one}
		others[0].Type++
		others[1].Attr++
		others[2].Rune++
		others[3].Marks[7]++
		others[4].Marks[0] = 0
		n := Make(one)
		if !Same(n, Make(one)) || n.Size() != length || !Same(Make(open(1, 0), n, nil), Make(open(1, 0), Make(one))) {
			t.Error(one)
		}
		for _, other := range others {
			if Same(n, Make(other)) || Same(Make(open(1, 0), n), Make(open(1, 0), Make(other))) {
				t.Error(one, other)
			}
		}
	}
	if Same(Make(open(2, 0)), Make(api.Token{Kind: api.Leaf, Type: 2})) || Same(Make(letter(0)), Make(api.Token{Kind: api.Leaf})) {
		t.Error("kinds")
	}
}

// P14.3: what is made of a token that may not be keeps all of it.
func TestMakeKeeps(t *testing.T) {
	some := []api.Token{{}, {Type: -1 << 63, Attr: 1<<63 - 1, Rune: -1, Marks: api.Marks{65535, 0, 1, 0, 0, 0, 0, 65535}}, {Type: 99, Attr: -1, Rune: 55296}, {Type: 2, Attr: 3, Rune: 'a', Marks: api.Marks{1, 1}}}
	for _, one := range some {
		for _, kind := range []int{-1 << 63, -1, 0, 2, 5, 1<<32 + 1} {
			one.Kind = kind
			if n := Make(one, Make(letter('a'))); n != nil {
				t.Error(n)
			}
		}
		kid := Make(open(2, 0))
		one.Kind = api.Open
		if n := Make(one, kid); n.Type() != one.Type || n.Attr() != one.Attr || n.Marks() != one.Marks || n.Leaf() || n.Text() != nil || n.Size() != 4 || n.Height() != 2 || n.Kids() != 1 || n.Kid(0) != kid || !token.Same(n.Whole(), []api.Token{one, open(2, 0), shut(), shut()}) {
			t.Errorf("%+v", n)
		}
		one.Kind = api.Leaf
		if n := Make(one, kid, nil); n.Type() != one.Type || n.Attr() != one.Attr || n.Marks() != one.Marks || !n.Leaf() || n.Text() != nil || n.Size() != 1 || n.Height() != 1 || n.Kids() != 0 || n.Tokens() != nil || !token.Same(n.Whole(), []api.Token{one}) {
			t.Errorf("%+v", n)
		}
		one.Kind = api.Char
		if n := Make(one, kid, kid); n.Type() != 0 || n.Attr() != one.Attr || n.Marks() != one.Marks || !n.Leaf() || !slices.Equal(n.Text(), []rune{one.Rune}) || n.Size() != 1 || n.Height() != 1 || n.Kids() != 0 || n.Tokens() != nil || !token.Same(n.Whole(), []api.Token{one}) {
			t.Errorf("%+v", n)
		}
	}
}

// P14.3: texts side by side with the same marks are one, those that come as kids too; the kids stay as they are.
func TestMakeJoins(t *testing.T) {
	s := made(t)
	p := built(t, s, `<p "ab b"c "d *br "e >`).Kid(0)
	x := Make(letter('x'))
	for _, one := range []struct {
		kids []*Node
		want string
	}{
		{nil, "<p >"},
		{[]*Node{nil, nil}, "<p >"},
		{[]*Node{x}, `<p "x >`},
		{[]*Node{x, x, nil, x}, `<p "xxx >`},
		{[]*Node{p.Kid(0), nil, x}, `<p "abx >`},
		{[]*Node{nil, x, nil, p.Kid(0), nil}, `<p "xab >`},
		{[]*Node{p.Kid(0), p.Kid(1), x, p.Kid(2)}, `<p "ab b"c "xd >`},
		{[]*Node{p.Kid(1), p.Kid(1), p.Kid(0), p.Kid(1)}, `<p b"cc "ab b"c >`},
		{[]*Node{x, p, x, nil, x, p.Kid(3), p.Kid(3), p.Kid(4)}, `<p "x <p "ab b"c "d *br "e > "xx *br *br "e >`},
	} {
		given := slices.Clone(one.kids)
		n := Make(open(2, 0), one.kids...)
		if w, _ := token.Show(s, n.Whole()); w != one.want {
			t.Errorf("%q", w)
		}
		checkNode(t, n, row(t, s, one.want))
		if !slices.Equal(given, one.kids) || string(x.Text()) != "x" || !Same(p, built(t, s, `<p "ab b"c "d *br "e >`).Kid(0)) {
			t.Error(one.kids, x, p)
		}
	}
	// A node that is joined with no other one is told as the very same one.
	n := Make(open(2, 0), nil, p.Kid(1), x, nil, p, p.Kid(3))
	if n.Kid(0) != p.Kid(1) || n.Kid(1) != x || n.Kid(2) != p || n.Kid(3) != p.Kid(3) {
		t.Error(n)
	}
	// What else letters have is kept, where they are one text.
	odd := api.Token{Kind: api.Char, Type: 7, Attr: -3, Rune: 'y'}
	n = Make(open(2, 0), x, Make(odd), x)
	if n.Kids() != 1 || !token.Same(n.Kid(0).Whole(), []api.Token{letter('x'), odd, letter('x')}) || string(n.Kid(0).Text()) != "xyx" {
		t.Error(n)
	}
}

// P14.3, P14.4: trees that are made from their kids up, with texts taken to pieces, are those that are built.
func TestMakeByChance(t *testing.T) {
	s := made(t)
	chance := rand.New(rand.NewPCG(14, 6))
	var again func(n *Node) []*Node
	again = func(n *Node) []*Node {
		var l []*Node
		whole := n.Whole()
		if n.Leaf() {
			for _, x := range whole {
				l = append(l, Make(x), nil)
			}
			return l
		}
		for i := range n.Kids() {
			if kid := n.Kid(i); chance.IntN(3) == 0 {
				l = append(l, kid)
			} else {
				l = append(l, again(kid)...)
			}
		}
		return []*Node{Make(whole[0], l...)}
	}
	for range 3000 {
		n, e := Build(s, rowByChance(chance, chance.IntN(40)))
		if e != api.OK {
			continue
		}
		other := again(n)[0]
		if !Same(n, other) || !token.Same(n.Whole(), other.Whole()) {
			t.Fatalf("%v, %v", n.Whole(), other.Whole())
		}
		checkNode(t, other, n.Whole())
	}
}

// P14.3: many texts are joined in one go.
func TestMakeMany(t *testing.T) {
	x := Make(letter('x'))
	kids := slices.Repeat([]*Node{x}, 1<<17)
	n := Make(open(2, 0), kids...)
	if n.Kids() != 1 || n.Size() != 1<<17+2 || string(n.Kid(0).Text()) != strings.Repeat("x", 1<<17) {
		t.Error(n.Kids(), n.Size())
	}
	n = x
	for range 1 << 16 {
		n = Make(open(2, 0), n)
	}
	if n.Height() != 1<<16+1 || len(n.Whole()) != 1<<17+1 || !Same(n, n) {
		t.Error(n.Height())
	}
	// What stands in a tree twice is there once.
	for range 60 {
		x = Make(open(2, 0), x, x)
	}
	if x.Height() != 61 || x.Size() != 3<<60-2 || !Same(x, x) {
		t.Error(x.Size())
	}
}

// P3: what is handed in stays as it is and isn't kept; what is answered is new, but nodes.
func TestShares(t *testing.T) {
	s := made(t)
	line := `<p "ab b"c > *hr`
	room := append(row(t, s, line), api.Token{Kind: 9}, api.Token{Kind: 9})
	l := room[:len(room)-2]
	was := slices.Clone(room)
	n, _ := Build(s, l)
	if !token.Same(room, was) {
		t.Error(room)
	}
	clear(room)
	check := func() {
		t.Helper()
		if w, _ := token.Show(s, n.Tokens()); w != line {
			t.Error(w)
		}
		checkNode(t, n, slices.Concat([]api.Token{open(1, 0)}, was[:len(was)-2], []api.Token{shut()}))
	}
	check()
	text := n.Kid(0).Kid(0)
	for _, one := range [][]api.Token{n.Tokens(), n.Whole(), n.Kid(0).Whole(), text.Whole(), n.Kid(1).Whole(), text.Tokens()} {
		_ = append(one, letter('z'))
		clear(one)
	}
	_ = append(text.Text(), 'z')
	clear(text.Text())
	check()
	kids := []*Node{n.Kid(0), Make(letter('y')), Make(letter('z')), nil, n.Kid(1)}
	given := slices.Clone(kids)
	made := Make(open(1, 0), kids[:3]...)
	if !slices.Equal(kids, given) {
		t.Error(kids)
	}
	clear(kids)
	if w, _ := token.Show(s, made.Tokens()); w != `<p "ab b"c > "yz` {
		t.Error(w)
	}
	check()
}
