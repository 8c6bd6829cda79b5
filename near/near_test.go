package near

import (
	"slices"
	"testing"

	"stet/api"
	"stet/schema"
	"stet/sel"
	"stet/token"
	"stet/tree"
)

// made is the schema that the tests know: doc is 1, quote 2, p 3, h 4, hr 5, br 6, t 7, wall 8. A quote, an hr, and a t may be selected.
func made(t testing.TB) *schema.Schema {
	t.Helper()
	s, e := schema.New("mark b\nnode doc : block*\nnode quote group=block pick : block*\nnode p group=block marks=* : (text|br|t)*\nnode h group=block : t*\nnode hr group=block pick\nnode br inline\nnode t inline pick\nnode wall group=block : wall*\n")
	if e != api.OK {
		t.Fatal(e)
	}
	return s
}

// flat is a schema of which the top has texts: doc is 1, t 2.
func flat(t testing.TB) *schema.Schema {
	t.Helper()
	s, e := schema.New("node doc pick : (text|t)*\nnode t inline pick\n")
	if e != api.OK {
		t.Fatal(e)
	}
	return s
}

// built is a line's tree, whether or not it is right.
func built(t testing.TB, s *schema.Schema, line string) *tree.Node {
	t.Helper()
	l, at, e := token.Parse(s, line)
	if e != api.OK {
		t.Fatal(line, at, e)
	}
	n, e := tree.Build(s, l)
	if e != api.OK {
		t.Fatal(line, e)
	}
	return n
}

// text is the place of text at a position.
func text(at int) api.Sel { return api.Sel{Kind: api.SelText, Anchor: at, Head: at} }

// node is the place of a node from a position to another one.
func node(at, to int) api.Sel { return api.Sel{Kind: api.SelNode, Anchor: at, Head: to} }

// all are all places.
func all(s *schema.Schema, n *tree.Node) []api.Sel { return slices.Collect(Places(s, n)) }

// check holds what is next, last and near at positions against all places that there should be.
func check(t *testing.T, s *schema.Schema, n *tree.Node, want []api.Sel, positions ...int) {
	t.Helper()
	for _, at := range positions {
		i, _ := slices.BinarySearchFunc(want, at, func(x api.Sel, at int) int {
			if x.Anchor < at {
				return -1
			}
			return 1
		})
		var next, last api.Sel
		if i < len(want) {
			next = want[i]
		}
		if i > 0 {
			last = want[i-1]
		}
		near := next
		if near == (api.Sel{}) {
			near = last
		}
		if near == (api.Sel{}) {
			near = sel.All(n)
		}
		if x, ok := Next(s, n, at); ok != (i < len(want)) || x != next {
			t.Errorf("next at %d: %v, %v", at, x, ok)
		}
		if x, ok := Last(s, n, at); ok != (i > 0) || x != last {
			t.Errorf("last at %d: %v, %v", at, x, ok)
		}
		if x := Near(s, n, at); x != near || !sel.Right(s, n, x) {
			t.Errorf("near %d: %v", at, x)
		}
	}
}

// odd are numbers far from where anything is.
func odd() []int {
	return []int{-1 << 63, -1<<63 + 1, -1 << 32, -1<<32 + 1, -2, -1, 1 << 31, 1<<32 - 1, 1 << 32, 1<<32 + 1, 1<<62 - 1, 1 << 62, 1<<63 - 2, 1<<63 - 1}
}

// P32.1, P32.2: the example.
func TestExample(t *testing.T) {
	s := made(t)
	n := built(t, s, `<p "ab > *hr`)
	if l := all(s, n); !slices.Equal(l, []api.Sel{text(1), text(2), text(3), node(4, 5)}) {
		t.Error(l)
	}
	if a, b := Near(s, n, 0), Near(s, n, 9); a != text(1) || b != node(4, 5) {
		t.Error(a, b)
	}
}

// P32.1, P32.2: all places, and what is next, last and near at each position.
func TestPlaces(t *testing.T) {
	s, f := made(t), flat(t)
	for _, x := range []struct {
		schema *schema.Schema
		line   string
		want   []api.Sel
	}{
		{s, ``, nil}, {s, `<wall >`, nil}, {s, `<wall <wall > > <wall >`, nil},
		{s, `<p >`, []api.Sel{text(1)}}, {s, `*hr`, []api.Sel{node(0, 1)}}, {s, `*hr *hr`, []api.Sel{node(0, 1), node(1, 2)}}, {s, `<quote >`, []api.Sel{node(0, 2)}},
		{s, `<wall > <p > <wall >`, []api.Sel{text(3)}}, {s, `<wall > *hr <wall >`, []api.Sel{node(2, 3)}},
		{s, `<p > <p >`, []api.Sel{text(1), text(3)}},
		// A t may be selected, but where it begins text may be, too.
		{s, `<h *t *t >`, []api.Sel{text(1), text(2), text(3)}},
		{s, `<p "a *t b"b *br > *hr`, []api.Sel{text(1), text(2), text(3), text(4), text(5), node(6, 7)}},
		{s, `<quote <p "a *t > > *hr <quote *hr >`, []api.Sel{node(0, 6), text(2), text(3), text(4), node(6, 7), node(7, 10), node(8, 9)}},
		{s, `<quote <quote <quote > > <h > >`, []api.Sel{node(0, 8), node(1, 5), node(2, 4), text(6)}},
		{f, ``, []api.Sel{text(0)}}, {f, `"ab`, []api.Sel{text(0), text(1), text(2)}}, {f, `*t *t`, []api.Sel{text(0), text(1), text(2)}},
		// Trees that aren't right: where a node within a block begins, and behind it, text may be.
		{s, `"a *t <p "b <p "c > <wall > *hr > "d`, []api.Sel{node(1, 2), text(3), text(4), text(5), text(6), text(7), text(9), text(10)}},
		{s, `<wall <p <quote *hr > "x > >`, []api.Sel{text(2), node(3, 4), text(5), text(6)}},
	} {
		n := built(t, x.schema, x.line)
		if l := all(x.schema, n); !slices.Equal(l, x.want) {
			t.Errorf("%q: %v", x.line, l)
		}
		for at := -2; at < n.Size()+2; at++ {
			check(t, x.schema, n, x.want, at)
		}
		check(t, x.schema, n, x.want, odd()...)
	}
}

// P32.1, P32.2: of nil nothing is told.
func TestNone(t *testing.T) {
	s := made(t)
	n := built(t, s, `<p "a > *hr`)
	for _, x := range []struct {
		s *schema.Schema
		n *tree.Node
	}{{nil, n}, {s, nil}, {nil, nil}} {
		for _, at := range append(odd(), 0, 1, 2) {
			next, ok := Next(x.s, x.n, at)
			last, fine := Last(x.s, x.n, at)
			if near := Near(x.s, x.n, at); ok || fine || next != (api.Sel{}) || last != (api.Sel{}) || near != (api.Sel{}) {
				t.Error(at, next, last, near)
			}
		}
		places := Places(x.s, x.n)
		if places == nil {
			t.Fatal("a nil function")
		}
		for x := range places {
			t.Error(x)
		}
	}
}

// P32.2, P7: places are told as far as one likes, each time from the first one, also while they are told.
func TestStopped(t *testing.T) {
	s := made(t)
	n := built(t, s, `<quote <p "a *t > > *hr <quote *hr >`)
	places := Places(s, n)
	want := all(s, n)
	if len(want) != 7 {
		t.Fatal(want)
	}
	for stop := range len(want) + 1 {
		var got []api.Sel
		for x := range places {
			if len(got) == stop {
				break
			}
			got = append(got, x)
			inner := 0
			for range places {
				if inner++; inner == stop {
					break
				}
			}
			if inner != stop {
				t.Error(stop, inner)
			}
		}
		if !slices.Equal(got, want[:stop]) {
			t.Error(stop, got)
		}
	}
}

// row is a list of places of text, each behind the one ahead.
func row(from, to int) []api.Sel {
	var l []api.Sel
	for at := from; at <= to; at++ {
		l = append(l, text(at))
	}
	return l
}

// P32.1, P32.2: places that are many, and some that are far apart.
func TestLong(t *testing.T) {
	s, f := made(t), flat(t)
	letter := tree.Make(api.Token{Kind: api.Char, Rune: 'x'})
	leaf := func(typ int) *tree.Node { return tree.Make(api.Token{Kind: api.Leaf, Type: typ}) }
	open := func(typ int, kids ...*tree.Node) *tree.Node {
		return tree.Make(api.Token{Kind: api.Open, Type: typ}, kids...)
	}
	for _, size := range []int{1, 63, 64, 65, 127, 128, 191, 192, 193, 4095, 4096, 4097, 9000, 20000} {
		want := row(0, size)
		n := open(1, slices.Repeat([]*tree.Node{letter}, size)...)
		if l := all(f, n); !slices.Equal(l, want) {
			t.Error(size, len(l))
		}
		positions := append(odd(), 0, 1, 63, 64, 65, 4095, 4096, 4097, size-1, size, size+1, size+2)
		check(t, f, n, want, positions...)
		n = open(1, slices.Repeat([]*tree.Node{leaf(5)}, size)...)
		want = nil
		for at := range size {
			want = append(want, node(at, at+1))
		}
		if l := all(s, n); !slices.Equal(l, want) {
			t.Error(size, len(l))
		}
		check(t, s, n, want, positions...)
		// One place stands far from all else.
		walls := slices.Repeat([]*tree.Node{open(8)}, size/2)
		for _, kids := range [][]*tree.Node{slices.Concat(walls, []*tree.Node{leaf(5)}, walls), append(walls, leaf(5)), append([]*tree.Node{leaf(5)}, walls...)} {
			n = open(1, kids...)
			at := 2 * slices.IndexFunc(kids, func(n *tree.Node) bool { return n.Leaf() })
			want = []api.Sel{node(at, at+1)}
			if l := all(s, n); !slices.Equal(l, want) {
				t.Error(size, l)
			}
			check(t, s, n, want, append(positions, at-64, at-1, at, at+1, at+64, at+65, at+4096, n.Size()-2, n.Size())...)
		}
	}
}

// P32.1, P32.2: trees that are deeper than documents, or greater than one could go through, of which no more is looked at than is asked.
func TestGreat(t *testing.T) {
	s := made(t)
	const deep = 300
	open := func(typ int, kids ...*tree.Node) *tree.Node {
		return tree.Make(api.Token{Kind: api.Open, Type: typ}, kids...)
	}
	letter := tree.Make(api.Token{Kind: api.Char, Rune: 'x'})
	n := open(3, letter)
	for range deep {
		n = open(8, n)
	}
	n = open(1, n)
	want := row(deep+1, deep+2)
	if l := all(s, n); !slices.Equal(l, want) {
		t.Error(l)
	}
	check(t, s, n, want, 0, 1, deep, deep+1, deep+2, deep+3, deep+4, 2*deep, 9*deep)
	n = open(3, letter)
	for range 58 {
		n = open(8, n, n)
	}
	n = open(1, n)
	half := n.Size()/2 - 1
	for at, want := range map[int][2]api.Sel{0: {text(59), {}}, 59: {text(59), {}}, 60: {text(60), text(59)}, half: {text(half + 58), text(half - 58)}, half + 59: {text(half + 59), text(half + 58)}, 2 * half: {{}, text(2*half - 59)}} {
		next, _ := Next(s, n, at)
		last, _ := Last(s, n, at)
		if next != want[0] || last != want[1] {
			t.Error(at, next, last)
		}
	}
	if x := Near(s, n, 1<<63-1); x != text(2*half-59) {
		t.Error(x)
	}
	var got []api.Sel
	for x := range Places(s, n) {
		if got = append(got, x); len(got) == 9000 {
			break
		}
	}
	if !slices.Equal(got[:4], []api.Sel{text(59), text(60), text(62), text(63)}) || !slices.IsSortedFunc(got, func(a, b api.Sel) int { return a.Anchor - b.Anchor }) {
		t.Error(got[:4])
	}
}
