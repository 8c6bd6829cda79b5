package chain

import (
	"math/rand/v2"
	"slices"
	"testing"

	"stet/api"
	"stet/fits"
	"stet/pin"
	"stet/route"
	"stet/schema"
	"stet/shift"
	"stet/smap"
	"stet/step"
	"stet/token"
	"stet/tree"
	"stet/tx"
)

const none = -1

// led is a map of the way, and the number of the one that it mirrors.
type led struct {
	m  []api.Range
	of int
}

// routed is the way as a route.
func routed(t *testing.T, way []led) *route.Route {
	t.Helper()
	var r route.Route
	for _, x := range way {
		e := api.OK
		if x.of == none {
			e = r.Add(x.m)
		} else {
			e = r.Mirror(x.m, x.of)
		}
		if e != api.OK {
			t.Fatal(way, e)
		}
	}
	return &r
}

// ahead is the way with a map ahead of all.
func ahead(m []api.Range, way []led) []led {
	l := []led{{m, none}}
	for _, x := range way {
		if x.of != none {
			x.of++
		}
		l = append(l, x)
	}
	return l
}

// taken is a chain over a map, as the words of the chapter say it: by routes of all maps; without mirrors, if they aren't asked for.
func taken(t *testing.T, l []Group, m []api.Range, mirrors bool) []Group {
	t.Helper()
	way := []led{{m, none}}
	var over []Group
	for _, g := range l {
		x := Group{Back: g.Back.Through(routed(t, way)), Lost: g.Lost}
		for _, one := range g.Steps {
			if !step.Shape(one) {
				x.Lost++
				continue
			}
			y, ok := shift.Through(one, routed(t, way))
			inverse := smap.Invert(step.Map(one))
			right := smap.Right(inverse)
			if right {
				way = ahead(inverse, way)
			}
			if !ok {
				x.Lost++
				continue
			}
			x.Steps = append(x.Steps, y)
			of := none
			if right && mirrors {
				of = 0
			}
			way = append(way, led{step.Map(y), of})
		}
		x.Pin = g.Pin.Through(routed(t, way))
		over = append(over, x)
	}
	return over
}

// stepped is a step by chance of few tokens, now and then one that reaches far, or whose shape isn't right.
func stepped(chance *rand.Rand) api.Step {
	switch chance.IntN(60) {
	case 0:
		return wrongs()[chance.IntN(len(wrongs()))]
	case 1:
		return around(4+chance.IntN(2), 5, most-chance.IntN(3), most)
	case 2:
		return splice(chance.IntN(9), most-chance.IntN(3), chance.IntN(3))
	}
	cuts := []int{chance.IntN(16), chance.IntN(16), chance.IntN(16), chance.IntN(16)}
	slices.Sort(cuts)
	from, to := cuts[0], cuts[3]
	switch kind := 1 + chance.IntN(8); kind {
	case api.Around:
		return around(from, cuts[1], cuts[2], to)
	case api.Remark:
		return remark(from, min(to, from+chance.IntN(3)))
	case api.AddMark, api.RemoveMark:
		x := mark(from, cuts[chance.IntN(4)])
		x.Kind = kind
		return x
	}
	return splice(from, cuts[chance.IntN(4)], chance.IntN(5))
}

// pinned is a pin by chance.
func pinned(chance *rand.Rand) pin.Pin {
	p := pin.Pin{Kind: chance.IntN(5), A: chance.IntN(20), B: chance.IntN(20)}
	if chance.IntN(10) == 0 {
		p.A = []int{least, -1, most, 1 << 31, farthest - 1, farthest, farthest + 1, great}[chance.IntN(8)]
	}
	return p
}

// chained is a chain by chance.
func chained(chance *rand.Rand) []Group {
	var l []Group
	for range 1 + chance.IntN(4) {
		g := Group{Pin: pinned(chance), Back: pinned(chance), Lost: chance.IntN(3)}
		for range chance.IntN(4) {
			g.Steps = append(g.Steps, stepped(chance))
		}
		l = append(l, g)
	}
	return l
}

// ranges is a map by chance.
func ranges(chance *rand.Rand) []api.Range {
	var m []api.Range
	at := chance.IntN(8)
	for range chance.IntN(4) {
		m = append(m, api.Range{At: at, Old: chance.IntN(4), New: chance.IntN(4)})
		at += m[len(m)-1].Old + 1 + chance.IntN(6)
	}
	return m
}

// P35.1: chains by chance against the words of the chapter, one map behind the other.
func TestByChance(t *testing.T) {
	chance := rand.New(rand.NewPCG(35, 1))
	lost, left, mirrored := 0, 0, 0
	for range 8000 {
		l := chained(chance)
		for range 1 + chance.IntN(3) {
			m := ranges(chance)
			got, want := Over(l, m), taken(t, l, m, true)
			if !Same(got, want) {
				t.Fatalf("%+v over %v: %+v, not %+v", l, m, got, want)
			}
			if !Same(got, taken(t, l, m, false)) {
				mirrored++
			}
			left += Steps(got)
			lost += Steps(l) - Steps(got)
			l = got
		}
	}
	if lost < 3000 || left < 30000 || mirrored < 2000 {
		t.Error(lost, left, mirrored)
	}
}

// steps are all steps of a chain, and how many its groups have lost.
func steps(l []Group) (all []api.Step, lost int) {
	for _, g := range l {
		all = append(all, g.Steps...)
		lost += g.Lost
	}
	return all, lost
}

// P35.2: how the steps of a chain are cut into groups turns none of them.
func TestCuts(t *testing.T) {
	chance := rand.New(rand.NewPCG(35, 2))
	for range 10000 {
		l, m := chained(chance), ranges(chance)
		all, lost := steps(l)
		was, gone := steps(Over(l, m))
		for range 3 {
			var other []Group
			for i := 0; i < len(all); {
				to := i + chance.IntN(len(all)-i+1)
				other = append(other, Group{Steps: all[i:to:to]})
				i = to
			}
			now, missing := steps(Over(other, m))
			if !slices.EqualFunc(now, was, step.Same) || missing != gone-lost {
				t.Fatalf("%+v over %v: %+v, not %+v", other, m, now, was)
			}
		}
	}
}

// P35.2: over an insertion at 0 each splice of a chain of splices moves by as much, and none is lost.
func TestInsertion(t *testing.T) {
	chance := rand.New(rand.NewPCG(35, 3))
	for range 10000 {
		var l, want []Group
		k := chance.IntN(9)
		if chance.IntN(9) == 0 {
			k = 1 << (10 + chance.IntN(20))
		}
		for range chance.IntN(5) {
			g := Group{Lost: chance.IntN(2)}
			moved := Group{Lost: g.Lost}
			for range chance.IntN(5) {
				from := chance.IntN(12)
				x := splice(from, from+chance.IntN(5), chance.IntN(6))
				g.Steps = append(g.Steps, x)
				x.From, x.To = x.From+k, x.To+k
				moved.Steps = append(moved.Steps, x)
			}
			l, want = append(l, g), append(want, moved)
		}
		if got := Over(l, list(0, 0, k)); !Same(got, want) {
			t.Fatalf("%+v by %d: %+v", l, k, got)
		}
	}
}

// P35.1: over what turns nothing a chain is itself, whose steps go through no maps.
func TestNothingTurned(t *testing.T) {
	chance := rand.New(rand.NewPCG(35, 4))
	count := 0
	for range 5000 {
		var l []Group
		for _, g := range chained(chance) {
			g.Steps = slices.DeleteFunc(g.Steps, func(x api.Step) bool {
				_, ok := shift.Over(x, nil)
				return !ok || x.To > 100
			})
			g.Pin, g.Back = text(chance.IntN(20), chance.IntN(20)), pin.Pin{Kind: api.SelNode, A: chance.IntN(20)}
			l = append(l, g)
			count += len(g.Steps)
		}
		for _, m := range [][]api.Range{nil, {}, list(4, 0, 0), list(0, 0, 0, 2, 0, 0, 9, 0, 0)} {
			if got := Over(l, m); !Same(got, l) {
				t.Fatalf("%+v over %v: %+v", l, m, got)
			}
		}
	}
	if count < 5000 {
		t.Error(count)
	}
}

// written is a schema of paragraphs with letters, and a document of it.
func written(t *testing.T, line string) (*schema.Schema, *tree.Node) {
	t.Helper()
	s, e := schema.New("mark b\nnode doc : p+\nnode p marks=* : text*\n")
	if e != api.OK {
		t.Fatal(e)
	}
	l, _, e := token.Parse(s, line)
	if e != api.OK {
		t.Fatal(e)
	}
	n, e := fits.Doc(s, l)
	if e != api.OK {
		t.Fatal(e)
	}
	return s, n
}

// edited is a document with letters by chance, all from one position to another one, put in, taken away and marked.
func edited(t *testing.T, chance *rand.Rand, s *schema.Schema, n *tree.Node, from, to int) *tx.Tx {
	t.Helper()
	x, e := tx.New(s, n)
	for range 1 + chance.IntN(6) {
		at := from + chance.IntN(to-from+1)
		one := api.Step{Kind: api.Splice, From: at, To: at + chance.IntN(to-at+1)}
		if k := chance.IntN(4); k == 0 && one.To > at {
			one.Kind = api.AddMark
		} else {
			one.Slice = token.Text([]rune("xyz")[:k]...)
			to += k + at - one.To
		}
		if e == api.OK {
			e = x.Do(one)
		}
	}
	if e != api.OK {
		t.Fatal(e)
	}
	return x
}

// P35.1: what undoes edits, taken over what others did elsewhere since, leaves what they would have made without those edits.
func TestUndone(t *testing.T) {
	s, n := written(t, `<p "abcdefgh > <p "ijklmnop >`)
	chance := rand.New(rand.NewPCG(35, 5))
	changed := 0
	for range 5000 {
		// The one edits from 3 to 6, the others from 12 on.
		x := edited(t, chance, s, n, 3, 6)
		l := []Group{{Steps: x.Undo(), Back: text(4, 14), Pin: text(4, 14)}}
		if k := len(l[0].Steps); k > 1 {
			l = []Group{{Steps: l[0].Steps[:k/2]}, {Steps: l[0].Steps[k/2:]}}
		}
		others := edited(t, chance, s, n, 12, 18)
		doc, e := x.Doc(), api.OK
		for _, one := range others.Steps() {
			y, ok := shift.Through(one, x.Route())
			if !ok {
				t.Fatal(one)
			}
			if doc, e = step.Apply(s, doc, y); e != api.OK {
				t.Fatal(y, e)
			}
			l = Over(l, step.Map(y))
		}
		for _, g := range l {
			if g.Lost != 0 {
				t.Fatal(l)
			}
			for _, one := range g.Steps {
				if doc, e = step.Apply(s, doc, one); e != api.OK {
					t.Fatal(one, e)
				}
			}
		}
		if !tree.Same(doc, others.Doc()) {
			t.Fatal(x.Steps(), others.Steps(), doc.Tokens())
		}
		if !tree.Same(doc, n) && !tree.Same(x.Doc(), n) {
			changed++
		}
	}
	if changed < 3000 {
		t.Error(changed)
	}
}
