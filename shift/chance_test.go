package shift

import (
	"math/rand/v2"
	"slices"
	"testing"

	"stet/api"
	"stet/fits"
	"stet/route"
	"stet/schema"
	"stet/smap"
	"stet/step"
	"stet/tree"
)

// stepped is a step by chance whose shape is right, of few tokens.
func stepped(chance *rand.Rand) api.Step {
	cuts := []int{chance.IntN(14), chance.IntN(14), chance.IntN(14), chance.IntN(14)}
	slices.Sort(cuts)
	from, to := cuts[0], cuts[3]
	switch kind := 1 + chance.IntN(5); kind {
	case api.Splice:
		return splice(from, cuts[chance.IntN(4)], chance.IntN(3))
	case api.Around:
		return around(from, cuts[1], cuts[2], to)
	case api.Remark:
		return remark(from, min(to, from+chance.IntN(4)))
	default:
		x := mark(from, cuts[chance.IntN(4)])
		x.Kind = kind
		return x
	}
}

// teller tells where positions come to.
type teller func(position, side int) (smap.Place, api.Errno)

// want is what a step comes to by what is told of its positions, as the words of the chapter say it.
func want(x api.Step, tell teller) (api.Step, bool) {
	from, e := tell(x.From, 0)
	to, f := tell(x.To, -1)
	gapFrom, g := tell(x.GapFrom, -1)
	gapTo, h := tell(x.GapTo, 0)
	y := x
	y.From = from.Position
	y.To = to.Position
	if y.To < y.From {
		y.To = y.From
	}
	lost := e != api.OK || f != api.OK
	if from.Inside && to.Inside {
		lost = true
	}
	if x.Kind == api.Around {
		y.GapFrom, y.GapTo = gapFrom.Position, gapTo.Position
		lost = lost || g != api.OK || h != api.OK
		if gapFrom.Position < from.Position || gapFrom.Position > gapTo.Position || gapTo.Position > to.Position {
			lost = true
		}
	}
	if x.Kind == api.AddMark || x.Kind == api.RemoveMark {
		lost = lost || to.Position <= from.Position
	}
	if x.Kind == api.Remark {
		y.To = from.Position + x.To - x.From
		for i := x.From; i < x.To; i++ {
			p, e := tell(i, 1)
			if e != api.OK || p.Gone || p.Position != from.Position+i-x.From {
				lost = true
			}
		}
	}
	if lost || !step.Shape(y) {
		return api.Step{}, false
	}
	return y, true
}

// P26.1: steps by chance, by functions that tell anything, against the words of the chapter.
func TestByChance(t *testing.T) {
	chance := rand.New(rand.NewPCG(26, 1))
	lost, left := map[int]int{}, map[int]int{}
	for range 300000 {
		x := stepped(chance)
		places := map[[2]int]smap.Place{}
		odd := chance.IntN(3)
		// Mostly a step up, and some things that are out of order.
		at := [2]int{}
		for position := range 15 {
			for i, side := range []int{-1, 1} {
				if chance.IntN(2) == 0 || i == 1 {
					at[i]++
				}
				at[i] = max(at[i], at[0])
				p := smap.Place{Position: at[i], Inside: chance.IntN(6) == 0, Gone: chance.IntN(12) == 0, Range: chance.IntN(3), Offset: chance.IntN(3)}
				if odd == 0 && chance.IntN(4) == 0 {
					p.Position += chance.IntN(7) - 3
				}
				if odd == 1 && chance.IntN(30) == 0 {
					p.Position = []int{-1, most, most + 1, great, least}[chance.IntN(5)]
				}
				places[[2]int{position, side}] = p
			}
		}
		wrong := chance.IntN(60)
		tell := func(position, side int) (smap.Place, api.Errno) {
			if side >= 0 {
				side = 1
			}
			if position == wrong {
				return smap.Place{}, api.ErrRange
			}
			return places[[2]int{position, side}], api.OK
		}
		y, ok := By(x, tell)
		if z, fine := want(x, tell); fine != ok || !step.Same(y, z) {
			t.Fatalf("%+v by %v: %+v, %v, not %+v", x, places, y, ok, z)
		}
		if ok {
			left[x.Kind]++
		} else {
			lost[x.Kind]++
		}
	}
	for kind := api.Splice; kind <= api.Remark; kind++ {
		if lost[kind] < 1000 || left[kind] < 1000 {
			t.Error(lost, left)
		}
	}
}

// ranges is a map by chance.
func ranges(chance *rand.Rand) []api.Range {
	var m []api.Range
	at := chance.IntN(6)
	for range chance.IntN(4) {
		m = append(m, api.Range{At: at, Old: chance.IntN(4), New: chance.IntN(4)})
		at += m[len(m)-1].Old + 1 + chance.IntN(6)
	}
	return m
}

// P26.1: steps by chance through routes by chance, with mirrors, over one map, and past other steps.
func TestRoutesByChance(t *testing.T) {
	chance := rand.New(rand.NewPCG(26, 2))
	lost, left := map[int]int{}, map[int]int{}
	for range 20000 {
		var r route.Route
		for range chance.IntN(4) {
			m := ranges(chance)
			if of := chance.IntN(3); r.Mirror(m, of) != api.OK && r.Add(m) != api.OK {
				t.Fatal(m)
			}
			if k := r.Len() - 1; chance.IntN(3) == 0 {
				r.Mirror(smap.Invert(r.At(k)), k)
			}
		}
		one, ahead := ranges(chance), stepped(chance)
		var alone, behind route.Route
		if alone.Add(one) != api.OK || behind.Add(step.Map(ahead)) != api.OK {
			t.Fatal(one, ahead)
		}
		for range 5 {
			x := stepped(chance)
			y, ok := Through(x, &r)
			if z, fine := want(x, r.Tell); fine != ok || !step.Same(y, z) {
				t.Fatalf("%+v: %+v, %v, not %+v", x, y, ok, z)
			}
			if ok {
				left[x.Kind]++
			} else {
				lost[x.Kind]++
			}
			y, ok = Over(x, one)
			if z, fine := want(x, alone.Tell); fine != ok || !step.Same(y, z) {
				t.Fatalf("%+v over %v: %+v, %v, not %+v", x, one, y, ok, z)
			}
			y, ok = Past(x, ahead)
			if z, fine := want(x, behind.Tell); fine != ok || !step.Same(y, z) {
				t.Fatalf("%+v past %+v: %+v, %v, not %+v", x, ahead, y, ok, z)
			}
		}
	}
	for kind := api.Splice; kind <= api.Remark; kind++ {
		if lost[kind] < 300 || left[kind] < 3000 {
			t.Error(lost, left)
		}
	}
}

// P26.2: through maps and their inverses that mirror them a step is itself, as through no maps.
func TestThereAndBack(t *testing.T) {
	chance := rand.New(rand.NewPCG(26, 3))
	for range 5000 {
		var r, none route.Route
		m := ranges(chance)
		r.Add(m)
		k := ranges(chance)
		r.Add(k)
		r.Mirror(smap.Invert(k), 1)
		r.Mirror(smap.Invert(m), 0)
		for range 5 {
			x := stepped(chance)
			y, ok := Through(x, &r)
			z, fine := Through(x, &none)
			if ok != fine || !step.Same(y, z) || ok && !step.Same(y, x) || ok == (x.Kind != api.Splice && x.Kind != api.Around && x.Kind != api.Remark && x.From == x.To) {
				t.Fatalf("%+v: %+v, %v", x, y, ok)
			}
		}
	}
}

// made is a schema in which splices of letters, of whole nodes and of their ends may often be.
func made(t *testing.T) *schema.Schema {
	t.Helper()
	s, e := schema.New("node doc : (q|p)*\nnode q : (q|p)*\nnode p : text*\n")
	if e != api.OK {
		t.Fatal(e)
	}
	return s
}

// grown is a row by chance that is whole, and at most so deep.
func grown(chance *rand.Rand, deep int) []api.Token {
	var l []api.Token
	for range chance.IntN(4) {
		x := []api.Token{{Kind: api.Open, Type: 2 + chance.IntN(2)}}
		if x[0].Type == 3 {
			for range chance.IntN(4) {
				x = append(x, api.Token{Kind: api.Char, Rune: rune('a' + chance.IntN(26))})
			}
		} else if deep > 0 {
			x = append(x, grown(chance, deep-1)...)
		}
		l = append(append(l, x...), api.Token{Kind: api.Close})
	}
	return l
}

// put is a splice by chance of a document's tokens, most often one that may be done.
func put(chance *rand.Rand, l []api.Token) api.Step {
	from := chance.IntN(len(l) + 1)
	x := api.Step{Kind: api.Splice, From: from, To: from}
	switch chance.IntN(4) {
	case 0:
		x.Slice = grown(chance, 1)
	case 1:
		x.Slice = []api.Token{{Kind: api.Close}, {Kind: api.Open, Type: 2 + chance.IntN(2)}}
	case 2:
		x.To = min(len(l), from+chance.IntN(5))
	}
	for range chance.IntN(3) {
		x.Slice = append(x.Slice, api.Token{Kind: api.Char, Rune: rune('a' + chance.IntN(26))})
	}
	return x
}

// both is a document with what one step does, and behind it another one past that.
func both(t *testing.T, s *schema.Schema, n *tree.Node, one, other api.Step) *tree.Node {
	t.Helper()
	m, e := step.Apply(s, n, one)
	x, ok := Past(other, one)
	if e != api.OK || !ok {
		t.Fatalf("%+v past %+v: %v, %v", other, one, ok, e)
	}
	m, _ = step.Apply(s, m, x)
	return m
}

// P26.2: of two splices that don't touch each one past the other one makes the same document.
func TestSplicesCommute(t *testing.T) {
	s := made(t)
	chance := rand.New(rand.NewPCG(26, 4))
	count := 0
	for range 20000 {
		l := grown(chance, 2)
		n, e := fits.Doc(s, l)
		if e != api.OK {
			t.Fatal(e)
		}
		a, b := put(chance, l), put(chance, l)
		if a.To >= b.From {
			continue
		}
		_, e = step.Apply(s, n, a)
		_, f := step.Apply(s, n, b)
		if e != api.OK || f != api.OK {
			continue
		}
		one, other := both(t, s, n, a, b), both(t, s, n, b, a)
		if (one == nil) != (other == nil) || !tree.Same(one, other) {
			t.Fatalf("%v: %+v and %+v: %v, %v", l, a, b, one, other)
		}
		if one != nil {
			count++
		}
	}
	if count < 500 {
		t.Error(count)
	}
}
