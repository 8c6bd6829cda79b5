package scan

import (
	"maps"
	"math/rand/v2"
	"slices"
	"testing"

	"stet/api"
	"stet/schema"
	"stet/token"
	"stet/tree"
)

// made is the schema that the tests know: doc is 1, p 2, h 3, quote 4, hr 5, br 6, img 7. What may stand in what isn't asked of nodes.
func made(t testing.TB) *schema.Schema {
	t.Helper()
	s, e := schema.New("mark b\nmark link val=9\nnode doc : (p|h|quote|hr)+\nnode p marks=* : text*\nnode h attr=9 : img br?\nnode quote : p+\nnode hr\nnode br inline\nnode img inline attr=5\n")
	if e != api.OK {
		t.Fatal(e)
	}
	return s
}

// built is a line's tree.
func built(t testing.TB, s *schema.Schema, line string) *tree.Node {
	t.Helper()
	l, at, e := token.Parse(s, line)
	if e != api.OK {
		t.Fatal(line, at, e)
	}
	n, e := tree.Build(s, l)
	if e != api.OK {
		t.Fatal(line, e)
	}
	return n
}

func open(typ int) api.Token { return api.Token{Kind: api.Open, Type: typ} }

func leaf(typ int, m ...uint16) api.Token {
	t := api.Token{Kind: api.Leaf, Type: typ}
	copy(t.Marks[:], m)
	return t
}

func letter(r rune, m ...uint16) api.Token {
	t := api.Token{Kind: api.Char, Rune: r}
	copy(t.Marks[:], m)
	return t
}

// run is a run, told shortly.
func run(from, to int, m ...uint16) Run {
	r := Run{From: from, To: to}
	copy(r.Marks[:], m)
	return r
}

// told are where the nodes between begin, each with its type.
func told(n *tree.Node, from, to int) [][2]int {
	var l [][2]int
	for at, node := range Between(n, from, to) {
		l = append(l, [2]int{at, node.Type()})
	}
	return l
}

// P18.1: the example.
func TestExample(t *testing.T) {
	n := built(t, made(t), `<p "ab > *hr`)
	if l := told(n, 2, 5); !slices.Equal(l, [][2]int{{0, 2}, {1, 0}, {4, 5}}) {
		t.Error(l)
	}
	want := []*tree.Node{n.Kid(0), n.Kid(0).Kid(0), n.Kid(1)}
	for _, node := range Between(n, 2, 5) {
		if node != want[0] {
			t.Error(node)
		}
		want = want[1:]
	}
}

// P18.1: the nodes of which a token is between.
func TestBetween(t *testing.T) {
	n := built(t, made(t), `"xy <quote <p "ab b"c > <p > *hr > *br`)
	// x y <quote <p a b c > <p > hr > br: 0 to 13.
	all := [][2]int{{0, 0}, {2, 4}, {3, 2}, {4, 0}, {6, 0}, {8, 2}, {10, 5}, {12, 6}}
	for _, x := range []struct {
		from, to int
		want     []int
	}{
		{0, 13, []int{0, 1, 2, 3, 4, 5, 6, 7}}, {-1 << 63, 1<<63 - 1, []int{0, 1, 2, 3, 4, 5, 6, 7}}, {-1, 14, []int{0, 1, 2, 3, 4, 5, 6, 7}}, {-5, 1, []int{0}}, {12, 1 << 32, []int{7}},
		{0, 1, []int{0}}, {1, 2, []int{0}}, {1, 3, []int{0, 1}}, {2, 3, []int{1}}, {3, 4, []int{1, 2}}, {3, 5, []int{1, 2, 3}}, {4, 5, []int{1, 2, 3}}, {5, 6, []int{1, 2, 3}}, {5, 7, []int{1, 2, 3, 4}}, {6, 7, []int{1, 2, 4}},
		{7, 8, []int{1, 2}}, {7, 9, []int{1, 2, 5}}, {8, 9, []int{1, 5}}, {9, 10, []int{1, 5}}, {9, 11, []int{1, 5, 6}}, {10, 11, []int{1, 6}}, {11, 12, []int{1}}, {11, 13, []int{1, 7}}, {12, 13, []int{7}},
		{0, 0, nil}, {5, 5, nil}, {13, 13, nil}, {13, 14, nil}, {-3, 0, nil}, {-3, -1, nil}, {6, 5, nil}, {13, 0, nil}, {1<<63 - 1, -1 << 63, nil}, {1<<63 - 1, 1<<63 - 1, nil}, {-1 << 63, -1 << 63, nil}, {-1 << 63, -1<<63 + 5, nil}, {1 << 32, 1<<32 + 5, nil},
	} {
		var want [][2]int
		for _, i := range x.want {
			want = append(want, all[i])
		}
		if l := told(n, x.from, x.to); !slices.Equal(l, want) {
			t.Errorf("%d to %d: %v", x.from, x.to, l)
		}
	}
	quote := n.Kid(1)
	if l := told(quote, 3, 6); !slices.Equal(l, [][2]int{{0, 2}, {3, 0}, {5, 2}}) {
		t.Error(l)
	}
}

// P18.1, P18.2: of nil, and of what has nothing within.
func TestNone(t *testing.T) {
	s := made(t)
	n := built(t, s, `<p "ab > *hr <h >`)
	for _, none := range []*tree.Node{nil, {}, n.Kid(0).Kid(0), n.Kid(1), tree.Make(open(4))} {
		for _, to := range []int{-1, 0, 1, 9, 1<<63 - 1} {
			if l := told(none, 0, to); len(l) > 0 {
				t.Error(l)
			}
			if l := Runs(s, none, 0, to); len(l) > 0 {
				t.Error(l)
			}
		}
		if b, c := Blocks(s, none), Counts(none); len(b) > 0 || len(c) > 0 {
			t.Error(b, c)
		}
		for typ := -1; typ < 9; typ++ {
			if l := Find(none, typ); len(l) > 0 {
				t.Error(l)
			}
		}
	}
	if l, b := Runs(nil, n, 0, 9), Blocks(nil, n); len(l)+len(b) > 0 {
		t.Error(l, b)
	}
	if l, b := Runs(nil, nil, 0, 9), Blocks(nil, nil); len(l)+len(b) > 0 {
		t.Error(l, b)
	}
}

// P18.1, P7: nodes are told as far as one likes, each time from the first one, also while they are told.
func TestStopped(t *testing.T) {
	n := built(t, made(t), `<quote <p "a b"b > <p "c > > *hr <h *img >`)
	between := Between(n, 2, 13)
	want := told(n, 2, 13)
	if len(want) != 9 {
		t.Fatal(want)
	}
	for stop := range len(want) + 1 {
		var got [][2]int
		for at, node := range between {
			if len(got) == stop {
				break
			}
			got = append(got, [2]int{at, node.Type()})
			inner := 0
			for range between {
				if inner++; inner == stop {
					break
				}
			}
			if inner != stop && stop > 0 {
				t.Error(stop, inner)
			}
		}
		if !slices.Equal(got, want[:stop]) {
			t.Error(stop, got)
		}
	}
}

// P18.2: runs, and what parts them.
func TestRuns(t *testing.T) {
	s := made(t)
	n := built(t, s, `"xy b"z <quote <p "ab *br b"c b*img=2 link=3"d link=4"e "fg > <p b"h > *hr *br > *br`)
	// x y z(b) <quote <p a b br c(b) img(b) d e f g > <p h(b) > hr br > br
	all := []Run{run(0, 2), run(2, 3, 1), run(5, 8), run(8, 10, 1), run(10, 11, 0, 4), run(11, 12, 0, 5), run(12, 14), run(16, 17, 1), run(19, 20), run(21, 22)}
	for _, x := range []struct {
		from, to int
		want     []Run
	}{
		{0, 22, all}, {-1 << 63, 1<<63 - 1, all}, {-3, 23, all}, {0, 12, all[:6]}, {3, 15, all[2:7]}, {3, 5, nil}, {14, 16, nil}, {17, 19, nil}, {22, 30, nil},
		{1, 2, []Run{run(1, 2)}}, {1, 3, []Run{run(1, 2), run(2, 3, 1)}}, {6, 9, []Run{run(6, 8), run(8, 9, 1)}}, {7, 8, []Run{run(7, 8)}}, {9, 10, []Run{run(9, 10, 1)}}, {13, 17, []Run{run(13, 14), run(16, 17, 1)}}, {19, 20, []Run{run(19, 20)}},
		{0, 0, nil}, {7, 7, nil}, {8, 6, nil}, {1<<63 - 1, -1 << 63, nil}, {-9, 0, nil},
	} {
		if l := Runs(s, n, x.from, x.to); !slices.Equal(l, x.want) {
			t.Errorf("%d to %d: %v", x.from, x.to, l)
		}
	}
	if l := Runs(s, n.Kid(2).Kid(0), 1, 5); !slices.Equal(l, []Run{run(1, 3), run(3, 5, 1)}) {
		t.Error(l)
	}
}

// P18.2: blocks are told by their types, whatever stands in them.
func TestBlocks(t *testing.T) {
	s := made(t)
	for line, want := range map[string][][2]int{
		``: {}, `*hr "a`: {}, `<p >`: {{1, 1}}, `<p "ab > *hr <h *br >`: {{1, 3}, {6, 7}}, `<quote <p "a > <p <h > "b > >`: {{2, 3}, {5, 8}, {6, 6}}, `<quote <quote <h > > > <p >`: {{3, 3}, {7, 7}},
	} {
		if l := Blocks(s, built(t, s, line)); !slices.Equal(l, want) {
			t.Errorf("%q: %v", line, l)
		}
	}
	n := built(t, s, `<p "ab <h > > <quote <p > >`)
	if l := Blocks(s, n.Kid(0)); !slices.Equal(l, [][2]int{{0, 4}, {3, 3}}) {
		t.Error(l)
	}
	if l := Blocks(s, n.Kid(1)); !slices.Equal(l, [][2]int{{1, 1}}) {
		t.Error(l)
	}
	flat, e := schema.New("node doc : (text|br)*\nnode br inline\n")
	if e != api.OK {
		t.Fatal(e)
	}
	if l := Blocks(flat, built(t, flat, `"a *br`)); !slices.Equal(l, [][2]int{{0, 2}}) {
		t.Error(l)
	}
	// In a leaf there are no positions, whatever type it is told to have.
	if l := Blocks(s, tree.Make(open(2), tree.Make(leaf(2)), tree.Make(open(3)))); !slices.Equal(l, [][2]int{{0, 3}, {2, 2}}) {
		t.Error(l)
	}
}

// P18.2: where nodes of a type begin, and how many there are.
func TestFindAndCounts(t *testing.T) {
	s := made(t)
	n := built(t, s, `<quote <p "ab b"c *br b"d > <p > > *hr <doc <p "x > > *hr`)
	for typ, want := range map[int][]int{0: {2, 4, 6, 14}, 1: {12}, 2: {1, 8, 13}, 3: {}, 4: {0}, 5: {11, 17}, 6: {5}, 7: {}, 8: {}, -1: {}, 1 << 32: {}, 1<<32 + 2: {}, -1 << 63: {}, 1<<63 - 1: {}} {
		if l := Find(n, typ); !slices.Equal(l, want) {
			t.Error(typ, l)
		}
	}
	if c := Counts(n); !maps.Equal(c, map[int]int{0: 4, 1: 1, 2: 3, 4: 1, 5: 2, 6: 1}) {
		t.Error(c)
	}
	if l, c := Find(n.Kid(0), 2), Counts(n.Kid(0)); !slices.Equal(l, []int{0, 7}) || !maps.Equal(c, map[int]int{0: 3, 2: 2, 6: 1}) {
		t.Error(l, c)
	}
}

// P18.1, P18.2: types that there are not are told as they are, and of the type 0 texts are found.
func TestOddTokens(t *testing.T) {
	s := made(t)
	a, far := tree.Make(letter('a', 0, 0, 7)), api.Token{Kind: api.Char, Type: 5, Attr: -1, Rune: -1, Marks: api.Marks{0, 0, 7}}
	n := tree.Make(open(-9), tree.Make(leaf(0)), a, tree.Make(far), tree.Make(open(0), a), tree.Make(leaf(1<<40)), tree.Make(leaf(6, 0, 0, 7)), tree.Make(open(6), a))
	// leaf a letter <0 a > leaf br <br a >
	if l := told(n, 0, 11); !slices.Equal(l, [][2]int{{0, 0}, {1, 0}, {3, 0}, {4, 0}, {6, 1 << 40}, {7, 6}, {8, 6}, {9, 0}}) {
		t.Error(l)
	}
	if l := Runs(s, n, 0, 11); !slices.Equal(l, []Run{run(0, 1), run(1, 3, 0, 0, 7), run(4, 5, 0, 0, 7), run(7, 8, 0, 0, 7), run(9, 10, 0, 0, 7)}) {
		t.Error(l)
	}
	if l, m, k := Find(n, 0), Find(n, 6), Find(n, 1<<40); !slices.Equal(l, []int{1, 4, 9}) || !slices.Equal(m, []int{7, 8}) || !slices.Equal(k, []int{6}) {
		t.Error(l, m, k)
	}
	if b := Blocks(s, n); len(b) > 0 {
		t.Error(b)
	}
}

// kidsByChance are nodes, of which some have kids.
func kidsByChance(chance *rand.Rand, deep, most int) []*tree.Node {
	var l []*tree.Node
	for range chance.IntN(most + 1) {
		set := []uint16{uint16(chance.IntN(4) / 3), uint16(chance.IntN(9) / 8 * 4)}
		switch k := chance.IntN(9); {
		case k < 4 && deep > 0:
			l = append(l, tree.Make(open(2+chance.IntN(3)), kidsByChance(chance, deep-1, most)...))
		case k == 4:
			l = append(l, tree.Make(leaf(5)))
		case k == 5:
			l = append(l, tree.Make(leaf(6+chance.IntN(2), set...)))
		default:
			l = append(l, tree.Make(letter(rune('a'+chance.IntN(2)), set...)))
		}
	}
	return l
}

// one is a node that is told by its tokens: where it begins and ends, and its type.
type one struct{ from, to, typ int }

// laid are the nodes of a row of tokens, by where they begin.
func laid(row []api.Token) []one {
	var l []one
	var opened []int
	for at, x := range row {
		switch {
		case x.Kind == api.Close:
			l[opened[len(opened)-1]].to = at + 1
			opened = opened[:len(opened)-1]
			continue
		case x.Kind == api.Char && at > 0 && row[at-1].Kind == api.Char && row[at-1].Marks == x.Marks:
			l[len(l)-1].to++
			continue
		case x.Kind == api.Open:
			opened = append(opened, len(l))
		}
		l = append(l, one{at, at + 1, x.Type})
	}
	return l
}

// runs are the runs of a row of tokens, found letter by letter.
func runs(s *schema.Schema, row []api.Token, from, to int) []Run {
	var l []Run
	for at := from; at < to; at++ {
		switch {
		case !token.Inline(s, row[at]):
		case at > from && token.Inline(s, row[at-1]) && row[at-1].Marks == row[at].Marks:
			l[len(l)-1].To++
		default:
			l = append(l, Run{at, at + 1, row[at].Marks})
		}
	}
	return l
}

// checkBetween holds what is told of a stretch against what its tokens tell.
func checkBetween(t *testing.T, s *schema.Schema, n *tree.Node, row []api.Token, all []one, from, to int) {
	t.Helper()
	var want []one
	for _, x := range all {
		if max(x.from, from) < min(x.to, to) {
			want = append(want, x)
		}
	}
	for at, node := range Between(n, from, to) {
		if len(want) == 0 || want[0] != (one{at, at + node.Size(), node.Type()}) || !token.Same(node.Whole(), row[at:at+node.Size()]) {
			t.Fatal(row, from, to, at)
		}
		want = want[1:]
	}
	if len(want) > 0 {
		t.Fatal(row, from, to, want)
	}
	got := Runs(s, n, from, to)
	if !slices.Equal(got, runs(s, row, from, to)) {
		t.Fatal(row, from, to, got)
	}
	inline := 0
	for _, x := range row[from:to] {
		if token.Inline(s, x) {
			inline++
		}
	}
	last := from
	for _, r := range got {
		if r.From < last || r.To <= r.From || r.To > to {
			t.Fatal(row, from, to, got)
		}
		inline -= r.To - r.From
		last = r.To
	}
	if inline != 0 {
		t.Fatal(row, from, to, got)
	}
}

// P18.1 to P18.3: all stretches of nodes by chance, against what is told of their tokens.
func TestByChance(t *testing.T) {
	s := made(t)
	chance := rand.New(rand.NewPCG(18, 1))
	count := 0
	for range 700 {
		n := tree.Make(open(1+chance.IntN(4)), kidsByChance(chance, 3, 5)...)
		row := n.Tokens()
		if len(row) > 50 {
			continue
		}
		all := laid(row)
		for from := range len(row) + 1 {
			for to := from; to <= len(row); to++ {
				checkBetween(t, s, n, row, all, from, to)
				count++
			}
		}
		counts, finds := map[int]int{}, map[int][]int{}
		var blocks [][2]int
		if s.Texts(n.Type()) {
			blocks = append(blocks, [2]int{0, len(row)})
		}
		for _, x := range all {
			counts[x.typ]++
			finds[x.typ] = append(finds[x.typ], x.from)
			if x.typ == 2 || x.typ == 3 {
				blocks = append(blocks, [2]int{x.from + 1, x.to - 1})
			}
		}
		if c := Counts(n); !maps.Equal(c, counts) {
			t.Fatal(row, c)
		}
		if b := Blocks(s, n); !slices.Equal(b, blocks) {
			t.Fatal(row, b)
		}
		for typ := range 9 {
			if l := Find(n, typ); !slices.Equal(l, finds[typ]) {
				t.Fatal(row, typ, l)
			}
		}
	}
	if count < 60000 {
		t.Error(count)
	}
}

// P18.1, P18.2: nodes that are deep, have many kids, or stand in a node more than once.
func TestGreat(t *testing.T) {
	s := made(t)
	const deep = 2000
	n := tree.Make(letter('x'))
	for range deep {
		n = tree.Make(open(2), n)
	}
	if b := Blocks(s, n); len(b) != deep || b[deep-1] != [2]int{deep - 1, deep} || b[0] != [2]int{0, 2*deep - 1} {
		t.Error(len(b))
	}
	if l := Find(n, 0); !slices.Equal(l, []int{deep - 1}) || Counts(n)[2] != deep-1 {
		t.Error(l)
	}
	many := tree.Make(open(1), slices.Repeat([]*tree.Node{tree.Make(leaf(6)), tree.Make(leaf(6, 1))}, 1<<16)...)
	if l := Runs(s, many, 5, 1<<17); len(l) != 1<<17-5 || l[0] != run(5, 6, 1) || Counts(many)[6] != 1<<17 {
		t.Error(len(l))
	}
	// Of a great node no more is looked at than is asked.
	n = tree.Make(letter('x'))
	for range 60 {
		n = tree.Make(open(2), n, n)
	}
	half := n.Kid(0).Size()
	if l := told(n, half-60, half+60); len(l) != 2*60 || l[0] != [2]int{0, 2} || l[119] != [2]int{half + 59, 0} {
		t.Error(len(l))
	}
	if l := Runs(s, n, half-60, half+60); !slices.Equal(l, []Run{run(half-60, half-59), run(half+59, half+60)}) {
		t.Error(l)
	}
	for at := range Between(n, 0, n.Size()) {
		if at > 100 {
			break
		}
	}
}

// P3: what is answered is new, and nodes stay as they are.
func TestShares(t *testing.T) {
	s := made(t)
	const line = `<p "ab b"c > <p "d >`
	n := built(t, s, line)
	for range 2 {
		r, b, f, c := Runs(s, n, 0, 8), Blocks(s, n), Find(n, 2), Counts(n)
		if !slices.Equal(r, []Run{run(1, 3), run(3, 4, 1), run(6, 7)}) || !slices.Equal(b, [][2]int{{1, 4}, {6, 7}}) || !slices.Equal(f, []int{0, 5}) || !maps.Equal(c, map[int]int{0: 3, 2: 2}) {
			t.Error(r, b, f, c)
		}
		_, _, _ = append(r, run(9, 9)), append(b, [2]int{9, 9}), append(f, 9)
		clear(r)
		clear(b)
		clear(f)
		c[0] = 9
		for _, node := range Between(n, 0, 8) {
			clear(node.Whole())
			clear(node.Text())
		}
		if w, ok := token.Show(s, n.Tokens()); w != line || !ok {
			t.Error(w)
		}
	}
}
