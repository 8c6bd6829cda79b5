package fits

import (
	"math/rand/v2"
	"slices"
	"testing"

	"stet/api"
	"stet/marks"
	"stet/schema"
	"stet/token"
	"stet/tree"
)

// made is the schema that the tests know: doc is 1, p 2, h 3, quote 4, hr 5, br 6; b is the mark 0, link 1, code 2.
func made(t testing.TB) *schema.Schema {
	t.Helper()
	s, e := schema.New("mark b\nmark link val=9\nmark code bars=*\nnode doc : (p|h|quote|hr)+\nnode p marks=b,link : (text|br)*\nnode h attr=9 marks=b : text?\nnode quote marks=* : p{1,2} hr?\nnode hr\nnode br inline\n")
	if e != api.OK {
		t.Fatal(e)
	}
	return s
}

// parsed are a line's tokens.
func parsed(t testing.TB, s *schema.Schema, line string) []api.Token {
	t.Helper()
	l, at, e := token.Parse(s, line)
	if e != api.OK {
		t.Fatal(line, at, e)
	}
	return l
}

// built is a line's tree.
func built(t testing.TB, s *schema.Schema, line string) *tree.Node {
	t.Helper()
	n, e := tree.Build(s, parsed(t, s, line))
	if e != api.OK {
		t.Fatal(line, e)
	}
	return n
}

func open(typ int) api.Token { return api.Token{Kind: api.Open, Type: typ} }

func leaf(typ int) api.Token { return api.Token{Kind: api.Leaf, Type: typ} }

func letter(r rune, m ...uint16) api.Token {
	t := api.Token{Kind: api.Char, Rune: r}
	copy(t.Marks[:], m)
	return t
}

// P17.2: the example.
func TestExample(t *testing.T) {
	s, e := schema.New("node doc : p+\nnode p : text*\n")
	if e != api.OK {
		t.Fatal(e)
	}
	if at, e := Tree(s, built(t, s, "")); at != -1 || e != api.ErrFit {
		t.Error(at, e)
	}
	if n, e := Doc(s, nil); n != nil || e != api.ErrFit {
		t.Error(n, e)
	}
}

// P17.1: what stands in nodes.
func TestKids(t *testing.T) {
	s := made(t)
	for line, want := range map[string][]int{
		``:                               {},
		`"a`:                             {0},
		`"abc`:                           {0},
		`"a b"b "c`:                      {0},
		`*br`:                            {6},
		`*br *br *hr *hr`:                {6, 6, 5, 5},
		`"a *br b"c "d link=2"e *br *br`: {0, 6, 0, 6, 6},
		`<p "a > <p > <h b"a > "x b"y`:   {2, 2, 3, 0},
		`b"x "y <quote <p "z > > "x b"y`: {0, 4, 0},
		`*hr "x`:                         {5, 0},
	} {
		if l := Kids(built(t, s, line)); !slices.Equal(l, want) {
			t.Errorf("%q: %v", line, l)
		}
	}
	n := built(t, s, `<p "a *br > *hr`)
	for _, none := range []*tree.Node{nil, {}, n.Kid(1), n.Kid(0).Kid(0), n.Kid(0).Kid(1), tree.Make(open(4))} {
		if l := Kids(none); len(l) != 0 {
			t.Error(l)
		}
	}
	if l := Kids(n.Kid(0)); !slices.Equal(l, []int{0, 6}) {
		t.Error(l)
	}
}

// P17.1: types that there are not are told as they are, and what is no text is none, whatever its type.
func TestOddKids(t *testing.T) {
	a, b := tree.Make(letter('a')), tree.Make(letter('b', 1))
	zero, node := tree.Make(leaf(0)), tree.Make(open(0))
	for _, x := range []struct {
		kids []*tree.Node
		want []int
	}{
		{[]*tree.Node{a, zero, b}, []int{0, 0, 0}}, {[]*tree.Node{zero, zero}, []int{0, 0}}, {[]*tree.Node{a, b, node, b, a, node}, []int{0, 0, 0, 0}},
		{[]*tree.Node{tree.Make(leaf(-1)), tree.Make(open(1 << 40)), tree.Make(leaf(1 << 40))}, []int{-1, 1 << 40, 1 << 40}},
		{[]*tree.Node{tree.Make(api.Token{Kind: api.Char, Type: 9, Rune: -1}), nil, b, nil, nil, a}, []int{0}},
	} {
		if l := Kids(tree.Make(open(-5), x.kids...)); !slices.Equal(l, x.want) {
			t.Error(l, x.want)
		}
	}
}

// P17.1: what is asked of a node, and what is told first.
func TestNode(t *testing.T) {
	s := made(t)
	kids := func(line string) []*tree.Node {
		n := built(t, s, line)
		var l []*tree.Node
		for i := range n.Kids() {
			l = append(l, n.Kid(i))
		}
		return l
	}
	for _, x := range []struct {
		open api.Token
		line string
		want api.Errno
	}{
		{open(1), `<p >`, api.OK}, {open(1), ``, api.ErrFit}, {open(1), `"a`, api.ErrFit}, {open(1), `*hr <h > *hr`, api.OK}, {open(1), `*br`, api.ErrFit}, {open(1), `b*br`, api.ErrFit}, {open(1), `<doc >`, api.ErrFit},
		{open(2), ``, api.OK}, {open(2), `"a b"b link=3"c *br b+link*br`, api.OK}, {open(2), `code"a`, api.ErrMark}, {open(2), `"a code*br`, api.ErrMark}, {open(2), `code"a <p >`, api.ErrFit}, {open(2), `b"x "y code"z`, api.ErrMark},
		{open(3), ``, api.OK}, {open(3), `"a`, api.OK}, {open(3), `"a b"b "c`, api.OK}, {open(3), `"a link"b`, api.ErrMark}, {open(3), `b+link"b`, api.ErrMark}, {open(3), `"a *br`, api.ErrFit}, {open(3), `link"a *br "b`, api.ErrFit}, {open(3), `link=9"a`, api.ErrMark},
		{open(4), `<p >`, api.OK}, {open(4), `<p > <p > *hr`, api.OK}, {open(4), `<p > *hr`, api.OK}, {open(4), `<p > <p > <p >`, api.ErrFit}, {open(4), `*hr`, api.ErrFit}, {open(4), ``, api.ErrFit}, {open(4), `<p > *hr *hr`, api.ErrFit}, {open(4), `*hr <p >`, api.ErrFit},
		// Of what stands in kids nothing is asked.
		{open(4), `<p <p > code"a >`, api.OK}, {open(1), `<quote > <h *br >`, api.OK},
		// Leaves, and what there is not.
		{leaf(5), ``, api.OK}, {leaf(6), ``, api.OK}, {open(5), ``, api.OK}, {open(5), `*hr`, api.ErrFit}, {open(6), `"a`, api.ErrFit}, {open(0), ``, api.OK}, {open(0), `"a`, api.ErrFit}, {leaf(0), ``, api.OK},
		{leaf(2), ``, api.OK}, {leaf(3), ``, api.OK}, {leaf(1), ``, api.ErrFit}, {leaf(4), ``, api.ErrFit}, {letter('a'), ``, api.OK}, {letter('a', 0, 0, 1), ``, api.OK}, {letter(-1, 9, 9, 9), ``, api.OK},
		{open(7), ``, api.ErrFit}, {leaf(7), ``, api.ErrFit}, {open(-1), ``, api.ErrFit}, {leaf(1 << 32), ``, api.ErrFit}, {open(1<<32 + 2), `"a`, api.ErrFit}, {open(-1 << 63), `code"a`, api.ErrFit},
	} {
		n := tree.Make(x.open, kids(x.line)...)
		if e := Node(s, n); e != x.want {
			t.Errorf("%+v, %q: %v", x.open, x.line, e)
		}
		if e := Node(nil, n); e != api.ErrNil {
			t.Error(e)
		}
	}
	if e := Node(s, nil); e != api.ErrNil {
		t.Error(e)
	}
	if e := Node(nil, nil); e != api.ErrNil {
		t.Error(e)
	}
	// The marks of all kids are asked, whatever they are; of their values nothing is.
	marked := func(m ...uint16) *tree.Node {
		x := open(2)
		copy(x.Marks[:], m)
		return tree.Make(x)
	}
	for _, x := range []struct {
		typ  int
		kid  *tree.Node
		want api.Errno
	}{
		{1, marked(), api.OK}, {1, marked(1), api.ErrMark}, {4, marked(1, 65535), api.OK}, {4, marked(1, 1, 1), api.OK}, {4, marked(0, 0, 0, 1), api.ErrMark}, {4, marked(0, 0, 0, 0, 0, 0, 0, 9), api.ErrMark},
		{2, tree.Make(letter('a', 900)), api.OK}, {2, tree.Make(letter('a', 0, 0, 900)), api.ErrMark}, {3, tree.Make(letter('a', 1, 0, 0, 1)), api.ErrMark},
	} {
		if e := Node(s, tree.Make(open(x.typ), x.kid)); e != x.want {
			t.Error(x.typ, x.kid.Marks(), e)
		}
	}
}

// P17.2, P17.3: which node is told of a tree, and that a document is one that is right.
func TestTree(t *testing.T) {
	s := made(t)
	for _, x := range []struct {
		line string
		at   int
		want api.Errno
	}{
		{`<p >`, 0, api.OK}, {`*hr`, 0, api.OK}, {`<p "a b"b *br > *hr <quote <p > <p "c > *hr > <h=9 "a b"b >`, 0, api.OK},
		{``, -1, api.ErrFit}, {`"a`, -1, api.ErrFit}, {`*br`, -1, api.ErrFit}, {`code*br`, -1, api.ErrFit}, {`<p > "a <h *br >`, -1, api.ErrFit}, {`<doc >`, -1, api.ErrFit},
		{`<p code"a >`, 0, api.ErrMark}, {`<h *br >`, 0, api.ErrFit}, {`<h link*br >`, 0, api.ErrFit}, {`<quote >`, 0, api.ErrFit}, {`<p > <quote >`, 2, api.ErrFit}, {`*hr <p "abc > <h link"a >`, 6, api.ErrMark},
		// One ahead of those behind it, and of those in it.
		{`<h link"a > <quote >`, 0, api.ErrMark}, {`<quote > <h link"a >`, 0, api.ErrFit}, {`<quote <p > <p > <p code"a > >`, 0, api.ErrFit}, {`<quote <p code"a > > <quote >`, 1, api.ErrMark}, {`<quote <p > <p "ab code"c > > <quote >`, 3, api.ErrMark},
		{`<quote <p "ab b"c > > <quote <p > <p "x <p > > *hr > <h "a *br >`, 10, api.ErrFit}, {`<p <p <p code"a > > >`, 0, api.ErrFit}, {`<quote <p > > <h code"a >`, 4, api.ErrMark},
	} {
		l := parsed(t, s, x.line)
		n := built(t, s, x.line)
		if at, e := Tree(s, n); at != x.at || e != x.want {
			t.Errorf("%q: %d, %v", x.line, at, e)
		}
		d, e := Doc(s, l)
		if e != x.want || (d != nil) != (e == api.OK) || d != nil && !tree.Same(d, n) {
			t.Errorf("%q: %v, %v", x.line, d, e)
		}
		if at, e := Tree(nil, n); at != 0 || e != api.ErrNil {
			t.Error(at, e)
		}
	}
	for _, none := range []*schema.Schema{s, nil} {
		if at, e := Tree(none, nil); at != 0 || e != api.ErrNil {
			t.Error(at, e)
		}
	}
}

// P17.2: a node other than a top one is told as -1 too, places count from within it, and leaves are nodes.
func TestTreeOfOthers(t *testing.T) {
	s := made(t)
	n := built(t, s, `<p "ab > <quote <p "c > <p code"x > > *hr`)
	for _, x := range []struct {
		n    *tree.Node
		at   int
		want api.Errno
	}{
		{n, 8, api.ErrMark}, {n.Kid(0), 0, api.OK}, {n.Kid(1), 3, api.ErrMark}, {n.Kid(1).Kid(1), -1, api.ErrMark}, {n.Kid(1).Kid(1).Kid(0), 0, api.OK}, {n.Kid(2), 0, api.OK},
		{tree.Make(open(2), tree.Make(letter('a')), tree.Make(open(0))), 0, api.OK}, {tree.Make(open(4), tree.Make(leaf(2)), tree.Make(leaf(2))), 0, api.OK}, {tree.Make(leaf(9)), -1, api.ErrFit},
		{tree.Make(open(1), tree.Make(open(2)), tree.Make(leaf(4))), 2, api.ErrFit}, {tree.Make(open(1), tree.Make(open(2)), tree.Make(leaf(3)), tree.Make(open(5), tree.Make(leaf(5)))), 3, api.ErrFit},
	} {
		if at, e := Tree(s, x.n); at != x.at || e != x.want {
			t.Errorf("%v: %d, %v", x.n.Whole(), at, e)
		}
	}
}

// P17.3: the errors of Build come ahead of the tree's.
func TestDocErrors(t *testing.T) {
	s := made(t)
	long := slices.Repeat(parsed(t, s, `*br`), api.MaxSize+1)
	deep := slices.Repeat([]api.Token{open(2)}, api.MaxNest+1)
	for range api.MaxNest + 1 {
		deep = append(deep, api.Token{Kind: api.Close})
	}
	for _, x := range []struct {
		s    *schema.Schema
		l    []api.Token
		want api.Errno
	}{
		{nil, nil, api.ErrNil}, {nil, long, api.ErrNil}, {s, long, api.ErrLong}, {s, long[1:], api.ErrFit}, {s, deep, api.ErrOpen}, {s, deep[1 : len(deep)-1], api.ErrFit},
		{s, []api.Token{open(2), {}}, api.ErrArg}, {s, []api.Token{open(5)}, api.ErrArg}, {s, []api.Token{open(2)}, api.ErrOpen}, {s, []api.Token{{Kind: api.Close}}, api.ErrOpen}, {s, nil, api.ErrFit},
		{s, parsed(t, s, `<p > <quote`), api.ErrOpen}, {s, slices.Repeat(parsed(t, s, `*hr`), api.MaxSize), api.OK},
	} {
		if n, e := Doc(x.s, x.l); e != x.want || (n != nil) != (e == api.OK) {
			t.Error(len(x.l), n, e)
		}
	}
}

// byChance are nodes by chance, most of which stand where they may.
func byChance(chance *rand.Rand, typ, deep int) *tree.Node {
	var kids []*tree.Node
	for range chance.IntN(4) {
		kid := []int{0, 2, 0, 0, 2}[typ]
		switch k := chance.IntN(10); {
		case k == 0:
			kid = chance.IntN(8)
		case k < 4 && typ == 1:
			kid = 2 + chance.IntN(4)
		case k < 4 && typ == 2:
			kid = 6
		case k < 4 && typ == 4:
			kid = 5
		}
		set := []uint16{uint16(chance.IntN(2)), uint16(chance.IntN(8) / 7 * 3), uint16(chance.IntN(24) / 23)}
		x := letter('a'+rune(chance.IntN(3)), set...)
		if kid > 4 {
			x = leaf(kid)
		}
		if kid == 6 {
			copy(x.Marks[:], set)
		}
		one := tree.Make(x)
		if kid > 0 && kid < 5 {
			one = tree.Make(open(kid))
			if deep > 0 {
				one = byChance(chance, kid, deep-1)
			}
		}
		kids = append(kids, one)
	}
	return tree.Make(open(typ), kids...)
}

// frame is what is met of a node, token by token.
type frame struct {
	at, typ int
	kids    []int
	sets    []api.Marks
	text    bool
}

// wrong tells of each node of a row of tokens that stands in a node of a type why it isn't right, by where it begins.
func wrong(s *schema.Schema, typ int, row []api.Token) map[int]api.Errno {
	faults := map[int]api.Errno{}
	ask := func(f frame) {
		faults[f.at] = api.OK
		for _, set := range f.sets {
			for _, m := range marks.List(set) {
				if !s.Allows(f.typ, m[0]) {
					faults[f.at] = api.ErrMark
				}
			}
		}
		if !s.Fits(f.typ, f.kids...) {
			faults[f.at] = api.ErrFit
		}
	}
	stack := []frame{{at: -1, typ: typ}}
	for at, x := range row {
		up := &stack[len(stack)-1]
		if x.Kind != api.Close {
			if x.Kind != api.Char || !up.text {
				up.kids = append(up.kids, x.Type)
			}
			up.sets = append(up.sets, x.Marks)
			up.text = x.Kind == api.Char
		}
		switch x.Kind {
		case api.Open:
			stack = append(stack, frame{at: at, typ: x.Type})
		case api.Leaf:
			ask(frame{at: at, typ: x.Type})
		case api.Close:
			ask(*up)
			stack = stack[:len(stack)-1]
		}
	}
	ask(stack[0])
	return faults
}

// P17.1 to P17.4: nodes by chance against what is told of their tokens; a tree is right just if each of its nodes is.
func TestByChance(t *testing.T) {
	s := made(t)
	chance := rand.New(rand.NewPCG(17, 1))
	counts := map[api.Errno]int{}
	far := 0
	for range 30000 {
		n := byChance(chance, 1+chance.IntN(7)%4, 3)
		row := n.Tokens()
		faults := wrong(s, n.Type(), row)
		place, want := 0, api.OK
		for at := -1; at < len(row) && want == api.OK; at++ {
			if e := faults[at]; e != api.OK {
				place, want = at, e
			}
		}
		at, e := Tree(s, n)
		if at != place || e != want || Node(s, n) != faults[-1] {
			t.Fatal(row, at, e, place, want)
		}
		all := true
		var ask func(n *tree.Node)
		ask = func(n *tree.Node) {
			all = all && Node(s, n) == api.OK
			for i := range n.Kids() {
				ask(n.Kid(i))
			}
		}
		ask(n)
		if all != (e == api.OK) {
			t.Fatal(row, e)
		}
		if n.Type() == 1 {
			d, f := Doc(s, row)
			if _, known := token.All(s, row); known && (f != e || e == api.OK && !tree.Same(d, n)) || !known && f != api.ErrArg {
				t.Fatal(row, f)
			}
		}
		counts[e]++
		if at > 3 {
			far++
		}
	}
	if counts[api.OK] < 3000 || counts[api.ErrFit] < 3000 || counts[api.ErrMark] < 1000 || far < 300 {
		t.Error(counts, far)
	}
}

// P17.1: what is asked of a node is what its type's expression says, of all short lists of kids.
func TestAllShort(t *testing.T) {
	s := made(t)
	var kids []*tree.Node
	for _, x := range []api.Token{letter('a'), letter('b', 1), open(1), open(2), open(3), open(4), leaf(5), leaf(6)} {
		kids = append(kids, tree.Make(x))
	}
	for code := range 8 * 8 * 8 * 8 {
		l := []*tree.Node{kids[code&7], kids[code>>3&7], kids[code>>6&7], kids[code>>9]}
		for n := range len(l) + 1 {
			var types []int
			text := false
			for _, kid := range l[:n] {
				if kid.Type() > 0 || !text {
					types = append(types, kid.Type())
				}
				text = kid.Type() == 0
			}
			for typ := 1; typ < 7; typ++ {
				node := tree.Make(open(typ), l[:n]...)
				want := api.OK
				switch {
				case !s.Fits(typ, types...):
					want = api.ErrFit
				case typ == 1 && slices.Contains(l[:n], kids[1]):
					want = api.ErrMark
				}
				if e := Node(s, node); e != want || !slices.Equal(Kids(node), types) {
					t.Fatal(typ, types, e)
				}
			}
		}
	}
}

// P17.2: trees that are deep, and nodes with many kids.
func TestGreat(t *testing.T) {
	s, e := schema.New("node doc : doc* p?\nnode p : text*\n")
	if e != api.OK {
		t.Fatal(e)
	}
	const deep = 1 << 15
	right, odd := tree.Make(open(2)), tree.Make(open(2), tree.Make(leaf(1)))
	for range deep {
		right, odd = tree.Make(open(1), right), tree.Make(open(1), odd)
	}
	if at, e := Tree(s, right); at != 0 || e != api.OK {
		t.Error(at, e)
	}
	if at, e := Tree(s, odd); at != deep-1 || e != api.ErrFit {
		t.Error(at, e)
	}
	kids := slices.Repeat([]*tree.Node{tree.Make(open(1))}, 1<<16)
	if at, e := Tree(s, tree.Make(open(1), kids...)); at != 0 || e != api.OK {
		t.Error(at, e)
	}
	kids[1<<16-2] = odd
	if at, e := Tree(s, tree.Make(open(1), kids...)); at != 2*(1<<16-2)+deep || e != api.ErrFit {
		t.Error(at, e)
	}
	if l := Kids(tree.Make(open(1), kids...)); len(l) != 1<<16 {
		t.Error(len(l))
	}
}

// P3: what is handed in stays, and what is answered is new.
func TestShares(t *testing.T) {
	s := made(t)
	const line = `<p "a b"b *br > *hr`
	room := append(parsed(t, s, line), open(9), open(9))
	was := slices.Clone(room)
	d, e := Doc(s, room[:len(room)-2])
	if e != api.OK || !slices.Equal(room, was) {
		t.Fatal(e, room)
	}
	clear(room)
	for range 2 {
		l := Kids(d)
		if !slices.Equal(l, []int{2, 5}) || !slices.Equal(Kids(d.Kid(0)), []int{0, 6}) {
			t.Error(l)
		}
		_ = append(l, 7)
		clear(l)
		if at, e := Tree(s, d); at != 0 || e != api.OK || !slices.Equal(d.Tokens(), was[:len(was)-2]) {
			t.Error(at, e)
		}
	}
}
