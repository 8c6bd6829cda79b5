package near

import (
	"math/rand/v2"
	"slices"
	"testing"

	"stet/api"
	"stet/sel"
	"stet/tree"
)

// kidsByChance are nodes by chance, whether or not they may stand there.
func kidsByChance(chance *rand.Rand, deep, most int) []*tree.Node {
	var l []*tree.Node
	for range chance.IntN(most + 1) {
		switch typ := chance.IntN(10); {
		case typ < 2:
			l = append(l, tree.Make(api.Token{Kind: api.Char, Rune: 'x', Marks: api.Marks{uint16(typ)}}))
		case typ < 5 && deep > 0 || typ > 7 && deep > 0:
			l = append(l, tree.Make(api.Token{Kind: api.Open, Type: min(typ, 8)}, kidsByChance(chance, deep-1, most)...))
		case typ < 8:
			l = append(l, tree.Make(api.Token{Kind: api.Leaf, Type: typ}))
		}
	}
	return l
}

// P32.1 to P32.3: what is told of trees by chance at all positions, against what may be selected at each one.
func TestByChance(t *testing.T) {
	s := made(t)
	chance := rand.New(rand.NewPCG(32, 1))
	count, none, last, long := map[int]int{}, 0, 0, 0
	for i := range 700 {
		n := tree.Make(api.Token{Kind: api.Open, Type: 1 + 2*chance.IntN(2)}, kidsByChance(chance, 3, 1+i%9)...)
		if n.Size() > 400 {
			continue
		}
		var want []api.Sel
		for at := -1; at <= n.Size(); at++ {
			x, ok := sel.Text(s, n, at, at)
			if !ok {
				x, ok = sel.Node(s, n, at)
			}
			if ok {
				want = append(want, x)
				count[x.Kind]++
			}
		}
		if l := all(s, n); !slices.Equal(l, want) {
			t.Fatal(n.Tokens(), l)
		}
		for at := -2; at <= n.Size()+1; at++ {
			check(t, s, n, want, at)
			x := Near(s, n, at)
			_, text := sel.Text(s, n, at, at)
			_, node := sel.Node(s, n, at)
			if !sel.Right(s, n, x) || (text || node) && x.Anchor != at {
				t.Fatal(n.Tokens(), at, x)
			}
			if len(want) > 0 && x.Anchor < at {
				last++
			}
		}
		if len(want) == 0 {
			none++
		}
		if n.Size() > 100 {
			long++
		}
	}
	if count[api.SelText] < 5000 || count[api.SelNode] < 2000 || none < 20 || last < 500 || long < 15 {
		t.Error(count, none, last, long)
	}
}
