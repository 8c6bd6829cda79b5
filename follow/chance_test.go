package follow

import (
	"math/rand/v2"
	"slices"
	"testing"

	"stet/api"
	"stet/fits"
	"stet/route"
	"stet/schema"
	"stet/sel"
	"stet/smap"
	"stet/step"
	"stet/tree"
	"stet/tx"
)

// grown is a row by chance of blocks that may stand in a document, and is at most so deep.
func grown(chance *rand.Rand, deep, most int) []api.Token {
	var l []api.Token
	for range 1 + chance.IntN(most) {
		switch typ := []int{2, 3, 3, 3, 4, 5, 5, 8}[chance.IntN(8)]; typ {
		case 2:
			if deep > 0 {
				l = slices.Concat(l, []api.Token{{Kind: api.Open, Type: 2}}, grown(chance, deep-1, most), []api.Token{{Kind: api.Close}})
			}
		case 5:
			l = append(l, api.Token{Kind: api.Leaf, Type: 5})
		default:
			l = append(l, api.Token{Kind: api.Open, Type: typ})
			l = append(append(l, inline(chance, typ)...), api.Token{Kind: api.Close})
		}
	}
	return l
}

// inline is a row by chance that may stand in a block of a type.
func inline(chance *rand.Rand, typ int) []api.Token {
	var l []api.Token
	for range chance.IntN(4) {
		one := api.Token{Kind: api.Char, Rune: rune('a' + chance.IntN(26))}
		if kind := chance.IntN(4); kind < 2 || typ == 4 {
			one = api.Token{Kind: api.Leaf, Type: 6 + min(kind+typ-3, 1)}
		}
		if typ != 8 {
			l = append(l, one)
		}
	}
	return l
}

// stepped is a step by chance: something is taken away, put in, or both, or a node set around it.
func stepped(chance *rand.Rand, l []api.Token) api.Step {
	from := chance.IntN(len(l) + 1)
	to := min(from+chance.IntN(8), len(l))
	x := api.Step{Kind: api.Splice, From: from, To: to}
	switch chance.IntN(7) {
	case 0, 1:
		x.Slice = inline(chance, 3)
	case 2:
		x.To, x.Slice = from, grown(chance, 1, 3)
	case 3:
		x.Slice = grown(chance, 1, 2)
	case 4:
		x.To, x.Slice = from, []api.Token{{Kind: api.Close}, {Kind: api.Open, Type: 3}}
	case 5:
		x = api.Step{Kind: api.Around, From: from, To: to, GapFrom: from, GapTo: to, Insert: 1, Slice: []api.Token{{Kind: api.Open, Type: 2}, {Kind: api.Close}}}
	}
	return x
}

// edited is a document by chance with steps by chance done to it.
func edited(t *testing.T, s *schema.Schema, chance *rand.Rand, steps int) *tx.Tx {
	t.Helper()
	n, e := fits.Doc(s, grown(chance, 2, 5))
	if e != api.OK {
		t.Fatal(e)
	}
	work, e := tx.New(s, n)
	if e != api.OK {
		t.Fatal(e)
	}
	for tries := 0; work.Len() < steps && tries < 60; tries++ {
		work.Do(stepped(chance, work.Doc().Tokens()))
	}
	return work
}

// beside is the first selection that is valid at a place from the position on, else the last one ahead, else that of all: each position is tried by itself.
func beside(s *schema.Schema, n *tree.Node, at int) api.Sel {
	end := n.Size() - 2
	tried := func(at int) (api.Sel, bool) {
		text := ofText(at, at)
		if sel.Right(s, n, text) {
			return text, true
		}
		return begun(s, n, at)
	}
	for k := max(at, 0); k <= end; k++ {
		if x, ok := tried(k); ok {
			return x
		}
	}
	for k := min(at-1, end); k >= 0; k-- {
		if x, ok := tried(k); ok {
			return x
		}
	}
	return ofAll(end)
}

// begun is the selection of the node that begins at a position: all ends are tried.
func begun(s *schema.Schema, n *tree.Node, at int) (api.Sel, bool) {
	for to := at + 1; to < n.Size()-1; to++ {
		if x := ofNode(at, to); sel.Right(s, n, x) {
			return x, true
		}
	}
	return api.Sel{}, false
}

// want is what a selection comes to where positions come to what is told, as the words of the chapter say it.
func want(s *schema.Schema, n *tree.Node, x api.Sel, place func(at int) int) api.Sel {
	switch x.Kind {
	case api.SelText:
		head := place(x.Head)
		if y := ofText(place(x.Anchor), head); sel.Right(s, n, y) {
			return y
		}
		return beside(s, n, head)
	case api.SelNode:
		if y, ok := begun(s, n, place(x.Anchor)); ok {
			return y
		}
		return beside(s, n, place(x.Anchor))
	case api.SelAll:
		return ofAll(n.Size() - 2)
	}
	return beside(s, n, 0)
}

// chosen is a selection by chance, in half of all cases one that is valid.
func chosen(s *schema.Schema, n *tree.Node, chance *rand.Rand) api.Sel {
	end := n.Size() - 2
	x := api.Sel{Kind: 1 + chance.IntN(2), Anchor: chance.IntN(end+3) - 1, Head: chance.IntN(end+3) - 1}
	switch chance.IntN(12) {
	case 0:
		x.Kind = chance.IntN(6) - 1
	case 1, 2, 3, 4, 5, 6:
		a, b := beside(s, n, x.Anchor), beside(s, n, x.Head)
		if a.Kind == api.SelText && b.Kind == a.Kind {
			a.Head = b.Head
		}
		return a
	}
	return x
}

// P33.1, P33.2: selections by chance behind steps by chance, map by map, and through all of them.
func TestByChance(t *testing.T) {
	s := made(t)
	chance := rand.New(rand.NewPCG(33, 1))
	count := map[string]int{}
	for i := range 2500 {
		work := edited(t, s, chance, i%4)
		begin, n := work.Begin(), work.Doc()
		steps := work.Steps()
		through := func(at int) int {
			for _, x := range steps {
				p, e := smap.Tell(step.Map(x), at, 1)
				if e != api.OK {
					return 0
				}
				at = p.Position
			}
			return at
		}
		for range 40 {
			x := chosen(s, begin, chance)
			y := want(s, n, x, through)
			got := Through(s, n, x, work.Route())
			if got != y || !sel.Right(s, n, got) {
				t.Fatal(begin.Tokens(), steps, x, got, y)
			}
			if len(steps) == 1 && Over(s, n, x, step.Map(steps[0])) != y {
				t.Fatal(begin.Tokens(), steps, x, y)
			}
			if !sel.Right(s, begin, x) {
				count["not valid"]++
				continue
			}
			switch {
			case len(steps) == 0 && got != x:
				t.Fatal(begin.Tokens(), x, got)
			case got.Kind != x.Kind:
				count["of another kind"]++
			case x.Kind == api.SelText && got != ofText(through(x.Anchor), through(x.Head)):
				count["near the head"]++
			case x.Kind == api.SelNode && got.Anchor != through(x.Anchor):
				count["another node"]++
			default:
				count["followed"]++
			}
		}
	}
	for _, k := range []string{"not valid", "of another kind", "near the head", "another node", "followed"} {
		if count[k] < 200 {
			t.Error(count)
		}
	}
}

// P33.1: behind steps by chance, and what undoes them, as mirrors, each selection comes to itself; ahead of that it is what the maps that are left tell.
func TestThereAndBack(t *testing.T) {
	s := made(t)
	chance := rand.New(rand.NewPCG(33, 2))
	valid, other := 0, 0
	for i := range 1000 {
		work := edited(t, s, chance, 1+i%4)
		n := work.Begin()
		var mirrored, plain route.Route
		for _, x := range work.Steps() {
			mirrored.Add(step.Map(x))
			plain.Add(step.Map(x))
		}
		for k, x := range work.Undo() {
			of := work.Len() - 1 - k
			if e := mirrored.Mirror(step.Map(x), of); e != api.OK {
				t.Fatal(e)
			}
			plain.Add(step.Map(x))
		}
		for range 40 {
			x := chosen(s, n, chance)
			for _, r := range []*route.Route{&mirrored, &plain} {
				y := Through(s, n, x, r)
				if w := want(s, n, x, func(at int) int { return r.Position(at, 1) }); y != w {
					t.Fatal(n.Tokens(), work.Steps(), x, y, w)
				}
				if !sel.Right(s, n, x) {
					continue
				}
				if valid++; y != x {
					other++
				}
				if r == &mirrored && y != x {
					t.Fatal(n.Tokens(), work.Steps(), x, y)
				}
			}
		}
	}
	if valid < 5000 || other < 500 {
		t.Error(valid, other)
	}
}
