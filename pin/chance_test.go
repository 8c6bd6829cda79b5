package pin

import (
	"math/rand/v2"
	"testing"

	"stet/api"
	"stet/follow"
	"stet/route"
	"stet/schema"
	"stet/sel"
	"stet/smap"
	"stet/tree"
)

// ranges is a map by chance.
func ranges(chance *rand.Rand) []api.Range {
	var m []api.Range
	at := chance.IntN(6)
	for range chance.IntN(4) {
		m = append(m, api.Range{At: at, Old: chance.IntN(4), New: chance.IntN(4)})
		at += m[len(m)-1].Old + 1 + chance.IntN(6)
	}
	return m
}

// chosen is a selection by chance.
func chosen(chance *rand.Rand) api.Sel {
	x := api.Sel{Kind: 1 + chance.IntN(3), Anchor: chance.IntN(24), Head: chance.IntN(24)}
	if chance.IntN(12) == 0 {
		x.Kind = chance.IntN(6) - 1
	}
	return x
}

// lines are documents that pins are resolved in.
func lines(t *testing.T, s *schema.Schema) []*tree.Node {
	t.Helper()
	var l []*tree.Node
	for _, line := range []string{``, `<p >`, `<wall <wall > >`, `<p "abcdef > *hr <h *t > <quote <wall > *hr >`, `<quote <p "a *t b"b > <h *t > > *hr <quote *hr <wall > >`, `*hr *hr <p *t *t > *hr *hr *hr`} {
		l = append(l, built(t, s, line))
	}
	return l
}

// resolved is what a pin is resolved to, as the words of the chapter say it: each position, and each end of a node, is tried by itself.
func resolved(s *schema.Schema, n *tree.Node, p Pin) api.Sel {
	end := n.Size() - 2
	begun := func(at int) (api.Sel, bool) {
		for to := at + 1; to <= end; to++ {
			if x := ofNode(at, to); sel.Right(s, n, x) {
				return x, true
			}
		}
		return api.Sel{}, false
	}
	near := func(at int) api.Sel {
		x := ofAll(end)
		// The last one ahead is taken, unless one is found from the position on.
		for k := 0; k <= end; k++ {
			y, ok := begun(k)
			if z := ofText(k, k); sel.Right(s, n, z) {
				y, ok = z, true
			}
			if ok {
				x = y
			}
			if ok && k >= at {
				return x
			}
		}
		return x
	}
	switch p.Kind {
	case api.SelText:
		if x := ofText(p.A, p.B); sel.Right(s, n, x) {
			return x
		}
		return near(p.B)
	case api.SelNode:
		if x, ok := begun(p.A); ok {
			return x
		}
		return near(p.A)
	case api.SelAll:
		return ofAll(end)
	}
	return near(0)
}

// P34.1 to P34.3: pins by chance through maps one by one, and through all of them; resolved they are what their selection comes to.
func TestByChance(t *testing.T) {
	s := made(t)
	docs := lines(t, s)
	chance := rand.New(rand.NewPCG(34, 1))
	kinds, moved := map[[2]int]int{}, 0
	for range 8000 {
		var r route.Route
		x := chosen(chance)
		p, places := Of(x), [2]int{x.Anchor, x.Head}
		for range chance.IntN(4) {
			m := ranges(chance)
			if e := r.Add(m); e != api.OK {
				t.Fatal(m, e)
			}
			var alone route.Route
			alone.Add(m)
			p = p.Through(&alone)
			for i, at := range places {
				places[i] = smap.Position(m, at, 1)
			}
		}
		want := Of(api.Sel{Kind: x.Kind, Anchor: places[0], Head: places[1]})
		if all := Of(x).Through(&r); all != p || p != want || all != Of(x).By(r.Tell) {
			t.Fatal(x, r.Len(), p, all, want)
		}
		if p != Of(x) {
			moved++
		}
		n := docs[chance.IntN(len(docs))]
		y := p.Resolve(s, n)
		if z := follow.Through(s, n, x, &r); y != z || !sel.Right(s, n, y) || y != resolved(s, n, p) {
			t.Fatal(x, p, n.Tokens(), y, z, resolved(s, n, p))
		}
		kinds[[2]int{x.Kind, y.Kind}]++
	}
	for _, k := range [][2]int{{1, 1}, {1, 2}, {1, 3}, {2, 1}, {2, 2}, {2, 3}, {3, 3}, {0, 1}, {4, 2}} {
		if kinds[k] < 15 {
			t.Error(kinds)
		}
	}
	if moved < 2000 {
		t.Error(moved)
	}
}

// P34.3: through routes with mirrors, too, a pin is resolved to what its selection comes to.
func TestMirrorsByChance(t *testing.T) {
	s := made(t)
	docs := lines(t, s)
	chance := rand.New(rand.NewPCG(34, 2))
	brought := 0
	for range 3000 {
		var r, plain route.Route
		for range 1 + chance.IntN(3) {
			m := ranges(chance)
			r.Add(m)
			plain.Add(m)
		}
		for k := r.Len() - 1; k >= 0 && chance.IntN(4) > 0; k-- {
			m := smap.Invert(r.At(k))
			if e := r.Mirror(m, k); e != api.OK {
				t.Fatal(e)
			}
			plain.Add(m)
		}
		for range 4 {
			x := chosen(chance)
			p := Of(x).Through(&r)
			if want := Of(api.Sel{Kind: x.Kind, Anchor: r.Position(x.Anchor, 1), Head: r.Position(x.Head, 1)}); p != want {
				t.Fatal(x, p, want)
			}
			if p != Of(x).Through(&plain) {
				brought++
			}
			n := docs[chance.IntN(len(docs))]
			if y := p.Resolve(s, n); y != follow.Through(s, n, x, &r) || y != resolved(s, n, p) {
				t.Fatal(x, p, n.Tokens(), y)
			}
		}
	}
	if brought < 600 {
		t.Error(brought)
	}
}
