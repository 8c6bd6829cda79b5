package patch

import (
	"math/rand/v2"
	"slices"
	"testing"

	"stet/api"
	"stet/fits"
	"stet/schema"
	"stet/token"
	"stet/tree"
)

// made is the schema that the tests know: doc is 1, q 2, p 3, h 4, hr 5, br 6; b is the mark 0, link 1.
func made(t testing.TB) *schema.Schema {
	t.Helper()
	s, e := schema.New("mark b\nmark link val=9\nnode doc : (q|p|h|hr)*\nnode q attr=9 : (q|p|h|hr)+\nnode p marks=* : (text|br)*\nnode h marks=b : text*\nnode hr\nnode br inline\n")
	if e != api.OK {
		t.Fatal(e)
	}
	return s
}

// parsed are a line's tokens.
func parsed(t testing.TB, s *schema.Schema, line string) []api.Token {
	t.Helper()
	l, at, e := token.Parse(s, line)
	if e != api.OK {
		t.Fatal(line, at, e)
	}
	return l
}

// doc is a line's document.
func doc(t testing.TB, s *schema.Schema, line string) *tree.Node {
	t.Helper()
	n, e := fits.Doc(s, parsed(t, s, line))
	if e != api.OK {
		t.Fatal(line, e)
	}
	return n
}

// line is a document's line.
func line(t testing.TB, s *schema.Schema, n *tree.Node) string {
	t.Helper()
	w, ok := token.Show(s, n.Tokens())
	if !ok {
		t.Fatal(n)
	}
	return w
}

// P21.2: the example, and splices of all kinds.
func TestSplice(t *testing.T) {
	s := made(t)
	const all = `<q=3 <p "ab b"c > <h "d > > *hr <p *br "x >`
	n := doc(t, s, all)
	for _, x := range []struct {
		from, to int
		put      string
		want     string
		e        api.Errno
	}{
		{0, 0, ``, all, api.OK}, {3, 3, ``, all, api.OK}, {15, 15, ``, all, api.OK},
		{0, 0, `*hr`, `*hr ` + all, api.OK}, {15, 15, `*hr`, all + ` *hr`, api.OK}, {0, 15, ``, ``, api.OK}, {0, 15, `<p >`, `<p >`, api.OK},
		{3, 3, `> <p`, `<q=3 <p "a > <p "b b"c > <h "d > > *hr <p *br "x >`, api.OK},
		{3, 3, `> > <q <p`, `<q=3 <p "a > > <q <p "b b"c > <h "d > > *hr <p *br "x >`, api.OK},
		{3, 3, `"xy`, `<q=3 <p "axyb b"c > <h "d > > *hr <p *br "x >`, api.OK},
		{4, 4, `b"xy`, `<q=3 <p "ab b"xyc > <h "d > > *hr <p *br "x >`, api.OK},
		{4, 5, ``, `<q=3 <p "ab > <h "d > > *hr <p *br "x >`, api.OK},
		{3, 5, `"b *br`, `<q=3 <p "ab *br > <h "d > > *hr <p *br "x >`, api.OK},
		{4, 7, ``, `<q=3 <p "abd > > *hr <p *br "x >`, api.OK}, {3, 14, ``, ``, api.ErrOpen}, {3, 13, ``, ``, api.ErrOpen}, {3, 13, `> >`, ``, api.ErrOpen},
		{5, 12, `> > <p`, `<q=3 <p "ab b"c > > <p *br "x >`, api.OK}, {8, 12, ``, ``, api.ErrOpen}, {8, 13, `x`, ``, api.ErrArg},
		{6, 9, ``, `<q=3 <p "ab b"c > > *hr <p *br "x >`, api.OK}, {1, 6, ``, `<q=3 <h "d > > *hr <p *br "x >`, api.OK}, {1, 9, ``, ``, api.ErrFit}, {0, 10, ``, `*hr <p *br "x >`, api.OK},
		{1, 2, `<h`, `<q=3 <h "ab b"c > <h "d > > *hr <p *br "x >`, api.OK}, {11, 12, `<h`, ``, api.ErrFit}, {7, 8, `link"d`, ``, api.ErrMark}, {7, 8, `*br`, ``, api.ErrFit}, {7, 8, `b"d`, `<q=3 <p "ab b"c > <h b"d > > *hr <p *br "x >`, api.OK},
		{0, 1, `<q=9`, `<q=9 <p "ab b"c > <h "d > > *hr <p *br "x >`, api.OK}, {0, 1, ``, ``, api.ErrOpen}, {9, 10, ``, ``, api.ErrOpen}, {0, 1, `>`, ``, api.ErrOpen}, {9, 10, `<q`, ``, api.ErrOpen}, {15, 15, `>`, ``, api.ErrOpen}, {15, 15, `<p`, ``, api.ErrOpen}, {0, 0, `> <p`, ``, api.ErrOpen},
		{10, 11, `"a`, ``, api.ErrFit}, {10, 11, `<q >`, ``, api.ErrFit},
		{3, 2, ``, ``, api.ErrRange}, {-1, 2, ``, ``, api.ErrRange}, {0, 16, ``, ``, api.ErrRange}, {16, 16, ``, ``, api.ErrRange}, {-1, -1, ``, ``, api.ErrRange}, {15, 0, ``, ``, api.ErrRange}, {1 << 32, 1 << 32, ``, ``, api.ErrRange}, {-1 << 63, 1<<63 - 1, ``, ``, api.ErrRange}, {1<<63 - 1, -1 << 63, ``, ``, api.ErrRange}, {1, 1<<32 + 1, ``, ``, api.ErrRange},
	} {
		l := []api.Token{{}}
		if x.put != `x` {
			l = parsed(t, s, x.put)
		}
		m, e := Splice(s, n, x.from, x.to, l)
		if e != x.e || (m == nil) != (e != api.OK) {
			t.Errorf("%d to %d, %q: %v, %v", x.from, x.to, x.put, m, e)
		}
		if e == api.OK && line(t, s, m) != x.want {
			t.Errorf("%d to %d, %q: %q", x.from, x.to, x.put, line(t, s, m))
		}
	}
	if line(t, s, n) != all {
		t.Error(line(t, s, n))
	}
}

// P21.1: parts in any order, and as often as one likes.
func TestWeave(t *testing.T) {
	s := made(t)
	n := doc(t, s, `<q=3 <p "ab > > *hr`)
	put := func(line string) Part { return Put(parsed(t, s, line)...) }
	for i, x := range []struct {
		parts []Part
		want  string
		e     api.Errno
	}{
		{nil, ``, api.OK},
		{[]Part{Keep(0, 7)}, `<q=3 <p "ab > > *hr`, api.OK},
		{[]Part{Keep(6, 7), Keep(0, 6)}, `*hr <q=3 <p "ab > >`, api.OK},
		{[]Part{Keep(1, 5), Keep(1, 5), Put(), Keep(6, 7), Keep(6, 7)}, `<p "ab > <p "ab > *hr *hr`, api.OK},
		{[]Part{Keep(0, 3), Keep(2, 3), Keep(2, 6)}, `<q=3 <p "aaab > >`, api.OK},
		{[]Part{Keep(0, 3), put(`> > <p`), Keep(3, 5), Keep(0, 0), put(`*hr`)}, `<q=3 <p "a > > <p "b > *hr`, api.OK},
		{[]Part{put(`<p "x`), Keep(2, 4), put(`"y >`)}, `<p "xaby >`, api.OK},
		{[]Part{put(`<p b"x`), Keep(2, 4), put(`"y > *hr`)}, `<p b"x "aby > *hr`, api.OK},
		{[]Part{Keep(0, 2), Keep(4, 7)}, `<q=3 <p > > *hr`, api.OK},
		{[]Part{Keep(0, 1), Keep(5, 7)}, ``, api.ErrFit},
		{[]Part{Keep(4, 6), Keep(0, 2)}, ``, api.ErrOpen},
		{[]Part{Keep(1, 5), Keep(5, 6)}, ``, api.ErrOpen},
		{[]Part{Keep(0, 2)}, ``, api.ErrOpen},
		{[]Part{Keep(7, 7), Keep(3, 3)}, ``, api.OK},
		{[]Part{Keep(2, 3)}, ``, api.ErrFit},
		// Of an old part the new tokens aren't asked, of a new one the places.
		{[]Part{{Old: true, From: 6, To: 7, New: []api.Token{{Kind: -1}}}}, `*hr`, api.OK},
		{[]Part{{From: 9, To: -1, New: parsed(t, s, `*hr`)}}, `*hr`, api.OK},
	} {
		m, e := Weave(s, n, x.parts...)
		if e != x.e || (m == nil) != (e != api.OK) || e == api.OK && line(t, s, m) != x.want {
			t.Error(i, m, e)
		}
	}
}

// P21.1: the errors, the first one ahead.
func TestErrors(t *testing.T) {
	s := made(t)
	n := doc(t, s, `<q <p "ab > > *hr`)
	beyond, wrong, torn, unfit := Keep(5, 4), Put(api.Token{}), Put(api.Token{Kind: api.Close}), Put(token.Text('a')...)
	most := Put(slices.Repeat([]api.Token{{Kind: api.Leaf, Type: 5}}, api.MaxSize)...)
	odd := slices.Clone(most.New)
	odd[19999].Rune = 1
	for i, x := range []struct {
		s     *schema.Schema
		n     *tree.Node
		parts []Part
		want  api.Errno
	}{
		{nil, n, []Part{beyond, wrong}, api.ErrNil}, {s, nil, []Part{beyond, wrong}, api.ErrNil}, {nil, nil, nil, api.ErrNil}, {s, nil, nil, api.ErrNil}, {nil, n, nil, api.ErrNil},
		{s, n, []Part{wrong, most, most, torn, unfit, beyond}, api.ErrRange}, {s, n, []Part{beyond}, api.ErrRange}, {s, n, []Part{Keep(-1, 0)}, api.ErrRange}, {s, n, []Part{Keep(7, 8)}, api.ErrRange}, {s, n, []Part{Keep(8, 8)}, api.ErrRange}, {s, n, []Part{Keep(-1, -1)}, api.ErrRange}, {s, n, []Part{Keep(0, 1<<63-1)}, api.ErrRange}, {s, n, []Part{Keep(-1<<63, 1<<63-1)}, api.ErrRange}, {s, n, []Part{Keep(1, 1<<32+1)}, api.ErrRange}, {s, n, []Part{Keep(1<<32, 1<<32)}, api.ErrRange},
		{s, n, []Part{torn, most, most, unfit, wrong}, api.ErrArg}, {s, n, []Part{wrong}, api.ErrArg}, {s, n, []Part{{New: odd}}, api.ErrArg}, {s, n, []Part{most, {New: odd}}, api.ErrArg},
		{s, n, []Part{torn, most, unfit}, api.ErrLong}, {s, n, []Part{most, Keep(6, 7)}, api.ErrLong}, {s, n, []Part{Keep(6, 7), most}, api.ErrLong}, {s, n, slices.Repeat([]Part{Keep(6, 7)}, api.MaxSize+1), api.ErrLong}, {s, n, slices.Repeat([]Part{Keep(0, 7)}, 2858), api.ErrLong},
		{s, n, []Part{unfit, torn}, api.ErrOpen}, {s, n, []Part{torn, unfit}, api.ErrOpen}, {s, n, []Part{torn, Put(api.Token{Kind: api.Open, Type: 3})}, api.ErrOpen}, {s, n, []Part{Keep(0, 1), unfit}, api.ErrOpen},
		{s, n, []Part{unfit}, api.ErrFit},
		{s, n, []Part{most}, api.OK}, {s, n, slices.Repeat([]Part{Keep(6, 7)}, api.MaxSize), api.OK}, {s, n, slices.Repeat([]Part{Keep(0, 7)}, 2857), api.OK}, {s, n, nil, api.OK},
	} {
		if m, e := Weave(x.s, x.n, x.parts...); e != x.want || (m == nil) != (e != api.OK) {
			t.Error(i, m, e, x.want)
		}
	}
	for _, x := range []struct {
		s        *schema.Schema
		n        *tree.Node
		from, to int
		l        []api.Token
		want     api.Errno
	}{
		{nil, n, 3, 1, wrong.New, api.ErrNil}, {s, nil, 3, 1, wrong.New, api.ErrNil}, {s, nil, 0, 0, nil, api.ErrNil}, {nil, n, 0, 0, nil, api.ErrNil},
		{s, n, 3, 1, wrong.New, api.ErrRange}, {s, n, 5, 8, wrong.New, api.ErrRange}, {s, n, 7, 7, append(most.New, api.Token{}), api.ErrArg}, {s, n, 7, 7, most.New, api.ErrLong}, {s, n, 0, 7, most.New, api.OK},
	} {
		if m, e := Splice(x.s, x.n, x.from, x.to, x.l); e != x.want || (m == nil) != (e != api.OK) {
			t.Error(x.from, x.to, m, e, x.want)
		}
	}
}

// P21.2: parts are what they are said to be; their tokens are their own.
func TestParts(t *testing.T) {
	for _, x := range [][2]int{{0, 0}, {3, 5}, {5, 3}, {-1 << 63, 1<<63 - 1}} {
		if p := Keep(x[0], x[1]); !p.Old || p.From != x[0] || p.To != x[1] || p.New != nil {
			t.Error(p)
		}
	}
	l := []api.Token{{Kind: 7}, {Kind: api.Open, Type: 2}, {Kind: 9}}
	p := Put(l[:2]...)
	if p.Old || p.From != 0 || p.To != 0 || !slices.Equal(p.New, l[:2]) {
		t.Error(p)
	}
	_ = append(p.New, api.Token{})
	clear(p.New)
	if !slices.Equal(l, []api.Token{{Kind: 7}, {Kind: api.Open, Type: 2}, {Kind: 9}}) || len(Put().New) != 0 {
		t.Error(l)
	}
}

// P21.1: a depth of 40 may be, one of 41 may not, wherever it comes from.
func TestDepth(t *testing.T) {
	s := made(t)
	open, shut := api.Token{Kind: api.Open, Type: 2}, api.Token{Kind: api.Close}
	nest := func(deep int) []api.Token {
		return slices.Concat(slices.Repeat([]api.Token{open}, deep), []api.Token{{Kind: api.Leaf, Type: 5}}, slices.Repeat([]api.Token{shut}, deep))
	}
	n, e := fits.Doc(s, nest(40))
	if e != api.OK {
		t.Fatal(e)
	}
	for i, x := range []struct {
		parts []Part
		want  api.Errno
	}{
		{[]Part{Keep(0, 81)}, api.OK}, {[]Part{Keep(0, 81), Keep(0, 81)}, api.OK},
		{[]Part{Put(open), Keep(0, 81), Put(shut)}, api.ErrOpen}, {[]Part{Put(open), Keep(1, 80), Put(shut)}, api.OK}, {[]Part{Put(open, open), Keep(1, 80), Put(shut, shut)}, api.ErrOpen},
		{[]Part{Keep(0, 40), Put(nest(0)...), Keep(40, 81)}, api.OK}, {[]Part{Keep(0, 40), Put(nest(1)...), Keep(40, 81)}, api.ErrOpen}, {[]Part{Keep(0, 39), Put(nest(1)...), Keep(39, 81)}, api.OK},
		{[]Part{Keep(0, 39), Put(api.Token{Kind: api.Open, Type: 3}, shut), Keep(39, 81)}, api.OK}, {[]Part{Keep(0, 40), Put(api.Token{Kind: api.Open, Type: 3}, shut), Keep(40, 81)}, api.ErrOpen},
		{[]Part{Put(nest(40)...)}, api.OK}, {[]Part{Put(nest(41)...)}, api.ErrOpen}, {[]Part{Put(nest(9999)...)}, api.ErrOpen}, {[]Part{Put(nest(10000)...)}, api.ErrLong},
	} {
		if m, e := Weave(s, n, x.parts...); e != x.want || (m == nil) != (e != api.OK) {
			t.Error(i, m, e)
		}
	}
}

// P21.1: of a tree that isn't right itself Doc's errors are told, of just those of its tokens that are kept.
func TestWrongTrees(t *testing.T) {
	s := made(t)
	top, p := api.Token{Kind: api.Open, Type: 1}, api.Token{Kind: api.Open, Type: 3}
	hr := tree.Make(api.Token{Kind: api.Leaf, Type: 5})
	letters := func(runes ...rune) []*tree.Node {
		var l []*tree.Node
		for _, r := range runes {
			l = append(l, tree.Make(api.Token{Kind: api.Char, Rune: r}))
		}
		return l
	}
	odd := func(r rune) *tree.Node { return tree.Make(p, letters('a', r, 'b')...) }
	for i, x := range []struct {
		n     *tree.Node
		parts []Part
		want  api.Errno
	}{
		{tree.Make(top, odd(-1), hr), []Part{Keep(0, 6)}, api.ErrArg}, {tree.Make(top, odd(-1), hr), []Part{Keep(5, 6)}, api.OK}, {tree.Make(top, odd(-1), hr), []Part{Keep(0, 2), Keep(3, 6)}, api.OK}, {tree.Make(top, odd(-1), hr), []Part{Keep(0, 2), Keep(2, 3)}, api.ErrArg}, {tree.Make(top, odd(-1), hr), []Part{Keep(2, 3), Keep(4, 5), Keep(4, 5)}, api.ErrArg},
		{tree.Make(top, tree.Make(api.Token{Kind: api.Open, Type: 3, Rune: 1}, letters('a')...)), []Part{Keep(0, 3)}, api.ErrArg},
		{tree.Make(top, tree.Make(api.Token{Kind: api.Open, Type: 3, Rune: 1}, letters('a')...)), []Part{Keep(0, 1)}, api.ErrArg},
		{tree.Make(top, tree.Make(api.Token{Kind: api.Open, Type: 3, Rune: 1}, letters('a')...)), []Part{Put(p), Keep(1, 3)}, api.OK},
		{tree.Make(top, tree.Make(api.Token{Kind: api.Open, Type: 2, Attr: 10}, hr)), []Part{Keep(0, 2)}, api.ErrArg},
		{tree.Make(top, tree.Make(api.Token{Kind: api.Leaf, Type: 3})), []Part{Keep(0, 1)}, api.ErrArg}, {tree.Make(top, tree.Make(api.Token{Kind: api.Open, Type: 5})), []Part{Keep(1, 2), Keep(0, 1)}, api.ErrArg},
		{tree.Make(top, letters('a', 'b')...), []Part{Keep(0, 2)}, api.ErrFit}, {tree.Make(top, letters('a', 'b')...), []Part{Put(p), Keep(0, 2), Put(api.Token{Kind: api.Close})}, api.OK}, {tree.Make(top, letters('a', 'b')...), []Part{Keep(0, 0)}, api.OK},
		{tree.Make(top, tree.Make(api.Token{Kind: api.Open, Type: 2})), []Part{Keep(0, 2)}, api.ErrFit},
		{tree.Make(top), nil, api.OK}, {hr, nil, api.OK}, {hr, []Part{Keep(0, 1)}, api.ErrRange}, {hr, []Part{Keep(0, 0)}, api.OK}, {letters('a')[0], []Part{Keep(0, 1)}, api.ErrRange}, {&tree.Node{}, []Part{Keep(0, 0)}, api.OK}, {&tree.Node{}, []Part{Keep(0, 1)}, api.ErrRange},
		// The top node's open token is none of those within it.
		{tree.Make(api.Token{Kind: api.Open, Type: 1, Attr: 5}, hr), []Part{Keep(0, 1)}, api.OK},
	} {
		m, e := Weave(s, x.n, x.parts...)
		if e != x.want || (m == nil) != (e != api.OK) {
			t.Error(i, m, e)
		}
		if e == api.OK && (m.Type() != 1 || m.Attr() != 0) {
			t.Error(i, m.Type(), m.Attr())
		}
	}
}

// P21.1: deep and great nodes are taken apart just where they have to be.
func TestGreatNodes(t *testing.T) {
	s := made(t)
	hr := tree.Make(api.Token{Kind: api.Leaf, Type: 5})
	top, q := api.Token{Kind: api.Open, Type: 1}, api.Token{Kind: api.Open, Type: 2}
	deep, great := hr, hr
	for range 1 << 15 {
		deep = tree.Make(q, deep)
	}
	for range 50 {
		great = tree.Make(q, great, great)
	}
	deep, great = tree.Make(top, deep), tree.Make(top, great)
	for i, x := range []struct {
		n     *tree.Node
		parts []Part
		want  api.Errno
	}{
		{deep, []Part{Keep(1<<15, 1<<15+1)}, api.OK}, {deep, []Part{Keep(1<<15-40, 1<<15+41)}, api.OK}, {deep, []Part{Keep(1<<15-41, 1<<15+42)}, api.ErrOpen}, {deep, []Part{Keep(1<<15-41, 1<<15+41)}, api.ErrOpen}, {deep, []Part{Keep(0, 1<<16+1)}, api.ErrLong}, {deep, []Part{Keep(0, 1<<16+2)}, api.ErrRange},
		{great, []Part{Keep(50, 51), Keep(51, 52)}, api.OK}, {great, []Part{Keep(49, 53), Keep(53, 57)}, api.OK}, {great, []Part{Keep(0, great.Size()-2)}, api.ErrLong}, {great, []Part{Keep(great.Size()-53, great.Size()-52)}, api.OK}, {great, []Part{Keep(great.Size()-20, great.Size()-2)}, api.ErrOpen}, {great, []Part{Keep(0, great.Size())}, api.ErrRange},
	} {
		if m, e := Weave(s, x.n, x.parts...); e != x.want || (m == nil) != (e != api.OK) {
			t.Error(i, m, e)
		}
	}
}

// places are the nodes within a node that are no texts, by where their first token stands.
func places(n *tree.Node) map[int]*tree.Node {
	found := map[int]*tree.Node{}
	var look func(n *tree.Node, at int)
	look = func(n *tree.Node, at int) {
		for i := range n.Kids() {
			kid := n.Kid(i)
			if len(kid.Text()) == 0 {
				found[at] = kid
				look(kid, at+1)
			}
			at += kid.Size()
		}
	}
	look(n, 0)
	return found
}

// held holds a woven tree against the one of all tokens, and its nodes against those of the old one.
func held(t *testing.T, s *schema.Schema, n *tree.Node, parts []Part) api.Errno {
	t.Helper()
	var l []api.Token
	old := n.Tokens()
	for _, p := range parts {
		if p.Old {
			l = append(l, old[p.From:p.To]...)
		} else {
			l = append(l, p.New...)
		}
	}
	want, f := fits.Doc(s, l)
	m, e := Weave(s, n, parts...)
	if e != f || !tree.Same(m, want) {
		t.Fatalf("%v: %v, %v", parts, m, e)
	}
	if e != api.OK {
		return e
	}
	was, now, at := places(n), places(m), 0
	for _, p := range parts {
		for i, node := range was {
			if p.Old && p.From <= i && i+node.Size() <= p.To && now[at+i-p.From] != node {
				t.Fatalf("%v: the node at %d is another one", parts, i)
			}
		}
		at += len(p.New)
		if p.Old {
			at += p.To - p.From
		}
	}
	return e
}

// grown is a row by chance that is whole, and at most so deep.
func grown(chance *rand.Rand, deep int) []api.Token {
	var l []api.Token
	for range 1 + chance.IntN(3) {
		switch kind := 2 + chance.IntN(4); {
		case kind == 2 && deep > 0:
			l = slices.Concat(l, []api.Token{{Kind: api.Open, Type: kind, Attr: chance.IntN(2)}}, grown(chance, deep-1), []api.Token{{Kind: api.Close}})
		case kind == 3 || kind == 4:
			l = append(l, api.Token{Kind: api.Open, Type: kind})
			for range chance.IntN(3) {
				l = append(l, api.Token{Kind: api.Char, Rune: rune('a' + chance.IntN(3)), Marks: api.Marks{uint16(chance.IntN(2))}})
				if kind == 3 && chance.IntN(3) == 0 {
					l = append(l, api.Token{Kind: api.Leaf, Type: 6, Marks: api.Marks{0, uint16(chance.IntN(2))}})
				}
			}
			l = append(l, api.Token{Kind: api.Close})
		default:
			l = append(l, api.Token{Kind: api.Leaf, Type: 5})
		}
	}
	return l
}

// P21.1, P21.3: what parts by chance make is what their tokens make, and whole nodes are handed on.
func TestByChance(t *testing.T) {
	s := made(t)
	chance := rand.New(rand.NewPCG(21, 1))
	count := map[api.Errno]int{}
	for range 400 {
		l := grown(chance, 2)
		n, e := fits.Doc(s, l)
		if e != api.OK {
			t.Fatal(e)
		}
		for range 40 {
			var parts []Part
			for range chance.IntN(5) {
				from := chance.IntN(len(l) + 1)
				to := from + chance.IntN(len(l)-from+1)
				switch other := grown(chance, 1); chance.IntN(4) {
				case 0:
					parts = append(parts, Put(other...))
				case 1:
					parts = append(parts, Put(other[chance.IntN(len(other)):]...))
				case 2:
					// Nodes that stand side by side.
					from, to := side(chance, n)
					parts = append(parts, Keep(from, to))
				default:
					parts = append(parts, Keep(from, to))
				}
			}
			count[held(t, s, n, parts)]++
		}
	}
	if count[api.OK] < 3000 || count[api.ErrOpen] < 3000 || count[api.ErrFit] < 100 || count[api.ErrArg] > 0 {
		t.Error(count)
	}
}

// side is a stretch of whole kids by chance, of a node by chance that isn't a leaf.
func side(chance *rand.Rand, n *tree.Node) (from, to int) {
	at := 0
	for chance.IntN(3) > 0 {
		i := chance.IntN(n.Kids())
		if n.Kid(i).Kids() == 0 {
			break
		}
		for k := range i {
			at += n.Kid(k).Size()
		}
		at, n = at+1, n.Kid(i)
	}
	from, to = at, at
	first := chance.IntN(n.Kids())
	for k := range first + chance.IntN(n.Kids()-first+1) {
		to += n.Kid(k).Size()
		if k < first {
			from = to
		}
	}
	return from, to
}

// P21.2, P21.3: all splices of small documents, with all that another one has between two positions; back from them; and those of nothing for nothing.
func TestAllSplices(t *testing.T) {
	s := made(t)
	lines := []string{`<q <p "ab > > *hr <p *br link"x >`, `<p "a b"c > <h b"d >`, `<q=2 *hr > <h "ab >`}
	count := map[api.Errno]int{}
	for _, one := range lines {
		for _, two := range lines {
			n, all := doc(t, s, one), parsed(t, s, two)
			size := n.Size() - 2
			for from := range size + 1 {
				for to := from; to <= size; to++ {
					for a := range len(all) + 1 {
						for b := a; b <= len(all); b++ {
							if a == b && a > 0 {
								continue
							}
							parts := []Part{Keep(0, from), Put(all[a:b]...), Keep(to, size)}
							e := held(t, s, n, parts)
							count[e]++
							m, f := Splice(s, n, from, to, all[a:b])
							if e != f {
								t.Fatal(from, to, a, b, e, f)
							}
							if e != api.OK {
								continue
							}
							if back, g := Splice(s, m, from, from+b-a, n.Tokens()[from:to]); g != api.OK || !tree.Same(back, n) {
								t.Fatal(from, to, a, b, g)
							}
							if (m == n) != (from == to && a == b) {
								t.Fatal(from, to, a, b)
							}
						}
					}
				}
			}
		}
	}
	if count[api.OK] < 1000 || count[api.ErrOpen] < 1000 || count[api.ErrFit] < 100 || count[api.ErrMark] < 10 {
		t.Error(count)
	}
}

// P21.3: nodes that change their places are the very same ones there, though another one alike stood at the place.
func TestMoved(t *testing.T) {
	s := made(t)
	n := doc(t, s, `<p "a > <p "a > *hr *hr`)
	m, e := Weave(s, n, Keep(3, 6), Keep(0, 3), Keep(7, 8), Keep(6, 7))
	if e != api.OK || m.Kid(0) != n.Kid(1) || m.Kid(1) != n.Kid(0) || m.Kid(2) != n.Kid(3) || m.Kid(3) != n.Kid(2) || !tree.Same(m, n) {
		t.Error(m, e)
	}
	if m, e = Weave(s, n, Keep(0, 4), Put(token.Text('b')...), Keep(4, 8)); e != api.OK || m.Kid(0) != n.Kid(0) || m.Kid(1) == n.Kid(1) || m.Kid(2) != n.Kid(2) || m.Kid(3) != n.Kid(3) {
		t.Error(m, e)
	}
}

// P3, P6: what is handed in stays, spare room too, and isn't kept; the old tree stays, and the same comes each time.
func TestAgain(t *testing.T) {
	s := made(t)
	n := doc(t, s, `<q <p "ab > > *hr`)
	l := slices.Grow(parsed(t, s, `"x > <p "y`), 4)
	room := append(l, api.Token{Kind: 8}, api.Token{Kind: 9})
	was := slices.Clone(room)
	parts := []Part{Keep(0, 3), {New: l}, Keep(3, 3), Keep(3, 5), {New: l[:0]}, Keep(5, 6), Keep(6, 7)}
	parted := slices.Clone(parts)
	for range 3 {
		m, e := Weave(s, n, parts[:6]...)
		k, f := Splice(s, n, 3, 3, l)
		if e != api.OK || f != api.OK || line(t, s, m) != `<q <p "ax > <p "yb > >` || line(t, s, k) != `<q <p "ax > <p "yb > > *hr` {
			t.Fatal(e, f)
		}
		same := func(a, b Part) bool {
			return a.Old == b.Old && a.From == b.From && a.To == b.To && slices.Equal(a.New, b.New)
		}
		if !slices.Equal(room, was) || !slices.EqualFunc(parts, parted, same) || line(t, s, n) != `<q <p "ab > > *hr` {
			t.Fatal(room, parts)
		}
		clear(l)
		if line(t, s, m) != `<q <p "ax > <p "yb > >` || line(t, s, k) != `<q <p "ax > <p "yb > > *hr` {
			t.Fatal(line(t, s, m))
		}
		copy(l, was)
	}
}
