package within

import (
	"math/rand/v2"
	"slices"
	"testing"

	"stet/api"
	"stet/token"
	"stet/tree"
)

func letter(r rune, m ...uint16) api.Token {
	t := api.Token{Kind: api.Char, Rune: r}
	copy(t.Marks[:], m)
	return t
}

// text is a text of letters without marks.
func text(l ...rune) *tree.Node {
	var kids []*tree.Node
	for _, r := range l {
		kids = append(kids, tree.Make(letter(r)))
	}
	return tree.Make(api.Token{Kind: api.Open}, kids...).Kid(0)
}

// some are nodes of each kind: nil, one that no call made, a leaf, a text, one without kids, and one with some.
func some() []*tree.Node {
	leaf, letters := tree.Make(api.Token{Kind: api.Leaf, Type: 4}), text('a', 'b', 'c')
	empty := tree.Make(api.Token{Kind: api.Open, Type: 2})
	return []*tree.Node{nil, {}, leaf, letters, empty, tree.Make(api.Token{Kind: api.Open, Type: 1}, leaf, letters, empty, tree.Make(letter('d', 1)))}
}

func TestSize(t *testing.T) {
	for i, want := range []int{0, 0, 0, 0, 0, 7} {
		n := some()[i]
		if Size(n) != want || Holds(n) != (i > 3) || Size(n) != len(n.Tokens()) {
			t.Error(i, Size(n), Holds(n))
		}
	}
}

func TestText(t *testing.T) {
	for i, n := range some() {
		if Text(n) != (i == 3) {
			t.Error(i)
		}
	}
	for _, x := range []api.Token{{Kind: api.Leaf}, {Kind: api.Leaf, Rune: 'a'}, {Kind: api.Open}} {
		if Text(tree.Make(x)) {
			t.Error(x)
		}
	}
	if !Text(tree.Make(api.Token{Kind: api.Char, Type: 7, Rune: -1})) || !Text(tree.Make(letter(0))) {
		t.Error("a letter that may not be")
	}
}

func TestCheck(t *testing.T) {
	far := []int{-1 << 63, -1, 0, 1, 3, 7, 8, 1 << 32, 1<<63 - 1}
	for i, n := range some() {
		for _, from := range far {
			for _, to := range far {
				want := api.OK
				switch {
				case i == 0:
					want = api.ErrNil
				case i < 4:
					want = api.ErrArg
				case from < 0 || to < from || to > Size(n):
					want = api.ErrRange
				}
				if e := Check(n, from, to); e != want {
					t.Error(i, from, to, e)
				}
			}
		}
	}
}

func TestKids(t *testing.T) {
	want := []int{0, 1, 4, 6}
	for i, n := range some() {
		all := Kids(n)
		for stop := range 5 {
			var got []int
			for at, kid := range all {
				if kid != n.Kid(len(got)) || kid == nil {
					t.Error(i, at, kid)
				}
				if got = append(got, at); len(got) == stop {
					break
				}
			}
			told := min(n.Kids(), map[bool]int{true: 4, false: stop}[stop == 0])
			if !slices.Equal(got, want[:told]) {
				t.Error(i, stop, got)
			}
		}
		if l := List(n); len(l) != n.Kids() || len(l) > 0 && l[len(l)-1] != n.Kid(len(l)-1) {
			t.Error(l)
		}
	}
	n := some()[5]
	l := List(n)
	clear(l)
	if n.Kid(0) == nil || List(n)[3] != n.Kid(3) {
		t.Error(n)
	}
}

// An open token is told whole, whether or not it may be.
func TestOpen(t *testing.T) {
	for _, n := range some()[2:] {
		for _, want := range []api.Token{{}, {Type: 2}, {Attr: 9}, {Type: -1 << 63, Attr: -1, Marks: api.Marks{1, 0, 65535}}, {Rune: 'a'}, {Type: 3, Attr: 4, Rune: -1, Marks: api.Marks{7: 1}}} {
			want.Kind = api.Open
			for _, made := range []*tree.Node{tree.Make(want), tree.Make(want, n), tree.Make(want, n, tree.Make(want), n)} {
				if got := Open(made); got != want {
					t.Error(got, want)
				}
			}
		}
	}
	// However much stands in a node, its open token is near.
	n := text('x')
	for range 60 {
		n = tree.Make(api.Token{Kind: api.Open, Type: 2, Attr: 3}, n, n)
	}
	if Open(n) != (api.Token{Kind: api.Open, Type: 2, Attr: 3}) {
		t.Error(Open(n))
	}
}

func TestPart(t *testing.T) {
	chance := rand.New(rand.NewPCG(15, 1))
	for size := 1; size < 8; size++ {
		var kids []*tree.Node
		for range size {
			kids = append(kids, tree.Make(api.Token{Kind: api.Char, Type: chance.IntN(2), Attr: chance.IntN(2), Rune: 'a' + rune(chance.IntN(9)), Marks: api.Marks{1, 5}}))
		}
		n := tree.Make(api.Token{Kind: api.Open}, kids...).Kid(0)
		was := n.Whole()
		for from := -2; from < size; from++ {
			for to := max(0, from) + 1; to < size+3; to++ {
				part := Part(n, from, to)
				if !token.Same(part.Whole(), was[max(from, 0):min(to, size)]) || !part.Leaf() || (part == n) != (from <= 0 && to >= size) {
					t.Error(from, to, part.Whole())
				}
			}
		}
		if !token.Same(n.Whole(), was) {
			t.Error(n.Whole())
		}
	}
	leaf := some()[2]
	if Part(leaf, 0, 1) != leaf || Part(leaf, -3, 9) != leaf {
		t.Error("a leaf")
	}
}

// tokensOf are the tokens from one position to another one, each with the type of the node in which it stands, by all the tokens of a node.
func tokensOf(n *tree.Node, from, to int) (types []int, l []api.Token) {
	open := []int{n.Type()}
	for at, x := range n.Tokens() {
		if x.Kind == api.Close {
			open = open[:len(open)-1]
		}
		if at >= from && at < to {
			types, l = append(types, open[len(open)-1]), append(l, x)
		}
		if x.Kind == api.Open {
			open = append(open, x.Type)
		}
	}
	return types, l
}

// byChance is a node by chance, at most so deep.
func byChance(chance *rand.Rand, deep int) *tree.Node {
	var kids []*tree.Node
	for range chance.IntN(5) {
		switch k := chance.IntN(4); {
		case k == 0 && deep > 0:
			kids = append(kids, byChance(chance, deep-1))
		case k == 1:
			kids = append(kids, tree.Make(api.Token{Kind: api.Leaf, Type: chance.IntN(3)}))
		default:
			kids = append(kids, tree.Make(letter('a'+rune(chance.IntN(9)), uint16(chance.IntN(2)))))
		}
	}
	return tree.Make(api.Token{Kind: api.Open, Type: chance.IntN(5), Attr: chance.IntN(2)}, kids...)
}

// Tokens are told with the types in which they stand, from any position to any other one, and no more once it is stopped.
func TestTokens(t *testing.T) {
	chance := rand.New(rand.NewPCG(15, 2))
	l := some()
	for range 100 {
		l = append(l, byChance(chance, 3))
	}
	for _, n := range l {
		size := Size(n)
		for from := -1; from < size+2; from++ {
			for to := -1; to < size+2; to++ {
				types, want := tokensOf(n, from, to)
				all := Tokens(n, from, to)
				for _, most := range []int{len(want) + 1, 1 + chance.IntN(len(want)+1), len(want) + 1} {
					var in []int
					var got []api.Token
					for typ, x := range all {
						if in, got = append(in, typ), append(got, x); len(got) == most {
							break
						}
					}
					most = min(most, len(want))
					if !slices.Equal(in, types[:most]) || !token.Same(got, want[:most]) {
						t.Fatal(from, to, in, got)
					}
				}
			}
		}
	}
}
