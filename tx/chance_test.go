package tx

import (
	"math/rand/v2"
	"slices"
	"testing"

	"stet/api"
	"stet/fits"
	"stet/schema"
	"stet/smap"
	"stet/step"
	"stet/tree"
)

// grown is a row by chance that is whole, and at most so deep.
func grown(chance *rand.Rand, deep int) []api.Token {
	var l []api.Token
	for range 1 + chance.IntN(3) {
		switch kind := 2 + chance.IntN(4); {
		case kind == 2 && deep > 0:
			l = slices.Concat(l, []api.Token{{Kind: api.Open, Type: kind, Attr: chance.IntN(2)}}, grown(chance, deep-1), []api.Token{{Kind: api.Close}})
		case kind == 3 || kind == 4:
			l = append(l, api.Token{Kind: api.Open, Type: kind})
			for range chance.IntN(4) {
				l = append(l, api.Token{Kind: api.Char, Rune: rune('a' + chance.IntN(26)), Marks: api.Marks{uint16(chance.IntN(2))}})
			}
			l = append(l, api.Token{Kind: api.Close})
		default:
			l = append(l, api.Token{Kind: api.Leaf, Type: 5})
		}
	}
	return l
}

// stretch is two positions by chance of a row, mostly near to one another.
func stretch(chance *rand.Rand, l []api.Token) (int, int) {
	from := chance.IntN(len(l) + 1)
	to := from
	open := 0
	// Mostly up to where as many are shut as are open.
	for to < len(l) && (open > 0 || chance.IntN(3) > 0) {
		switch l[to].Kind {
		case api.Open:
			open++
		case api.Close:
			open--
		}
		if open < 0 && chance.IntN(6) > 0 {
			break
		}
		to++
	}
	return from, to
}

// stepped is a step by chance, often one that may be done.
func stepped(chance *rand.Rand, l []api.Token) api.Step {
	from, to := stretch(chance, l)
	x := api.Step{Kind: 1 + chance.IntN(5), From: from, To: to}
	switch x.Kind {
	case api.Splice:
		switch chance.IntN(4) {
		case 0:
			x.Slice = grown(chance, 1)
		case 1:
			x.To, x.Slice = from, []api.Token{{Kind: api.Close}, {Kind: api.Open, Type: 2 + chance.IntN(3)}}
		case 2:
			x.Slice = []api.Token{{Kind: api.Char, Rune: 'X'}, {Kind: api.Char, Rune: 'Y'}}[chance.IntN(2):]
		}
	case api.Around:
		x.GapFrom, x.GapTo = from, to
		if to-from > 1 && chance.IntN(2) == 0 {
			x.GapFrom, x.GapTo = from+1, to-1
		}
		if chance.IntN(3) > 0 {
			x.Insert, x.Slice = 1, []api.Token{{Kind: api.Open, Type: 2 + chance.IntN(3)}, {Kind: api.Close}}
		}
	case api.Remark:
		for _, one := range l[from:to] {
			x.Sets = append(x.Sets, api.Marks{})
			if one.Kind == api.Char {
				x.Sets[len(x.Sets)-1] = api.Marks{uint16(chance.IntN(2))}
			}
		}
	default:
		x.Mark = chance.IntN(3)
	}
	if chance.IntN(30) == 0 {
		x.To += chance.IntN(1 + len(l))
	}
	return x
}

// model is what has come of a document by steps done one by one, and what undoes them, the last one ahead.
type model struct {
	begin, now  *tree.Node
	steps, undo []api.Step
}

// do is a model behind a step.
func (m model) do(s *schema.Schema, x api.Step) (model, api.Errno) {
	n, e := step.Apply(s, m.now, x)
	if e != api.OK {
		return m, e
	}
	y, _ := step.Invert(s, m.now, x)
	return model{m.begin, n, append(slices.Clip(m.steps), x), append([]api.Step{y}, m.undo...)}, api.OK
}

// all is a model behind steps; else how many could be done.
func (m model) all(s *schema.Schema, l []api.Step) (model, int, api.Errno) {
	next, e := m, api.OK
	for i, x := range l {
		if next, e = next.do(s, x); e != api.OK {
			return m, i, e
		}
	}
	return next, len(l), api.OK
}

// changes are a model's, as the words of the chapter say it.
func (m model) changes(t *testing.T) [][2]int {
	t.Helper()
	var l [][2]int
	through := func(at, side int, behind []api.Step) int {
		for _, x := range behind {
			p, e := smap.Tell(step.Map(x), at, side)
			if e != api.OK {
				t.Fatal(x, at, e)
			}
			at = p.Position
		}
		return at
	}
	for i, x := range m.steps {
		behind := m.steps[i+1:]
		ranges := step.Map(x)
		if len(ranges) == 0 {
			l = append(l, [2]int{through(x.From, -1, behind), through(x.To, 1, behind)})
		}
		shift := 0
		for _, r := range ranges {
			at := r.At + shift
			l = append(l, [2]int{through(at, -1, behind), through(at+r.New, 1, behind)})
			shift += r.New - r.Old
		}
	}
	return l
}

// like holds what a transaction tells against a model.
func (m model) like(t *testing.T, x *Tx) {
	t.Helper()
	if x.Begin() != m.begin || !tree.Same(x.Doc(), m.now) || x.Len() != len(m.steps) || !slices.EqualFunc(x.Steps(), m.steps, step.Same) || !slices.EqualFunc(x.Undo(), m.undo, step.Same) {
		t.Fatalf("%+v: %v, %+v, %+v", m, x.Doc(), x.Steps(), x.Undo())
	}
	r := x.Route()
	if r.Len() != len(m.steps) {
		t.Fatal(r.Len())
	}
	for i, one := range m.steps {
		if _, ok := r.Of(i); ok || !slices.Equal(r.At(i), step.Map(one)) {
			t.Fatal(i, r.At(i))
		}
	}
	if got, want := x.Changes(), m.changes(t); !slices.Equal(got, want) {
		t.Fatalf("%+v: %v, not %v", m.steps, got, want)
	}
}

// P28.1, P28.2, P28.3: steps by chance, done one by one and together, and undone.
func TestByChance(t *testing.T) {
	s := made(t)
	chance := rand.New(rand.NewPCG(28, 1))
	count := map[int]int{}
	for range 3000 {
		n, e := fits.Doc(s, grown(chance, 2))
		if e != api.OK {
			t.Fatal(e)
		}
		x, e := New(s, n)
		if e != api.OK {
			t.Fatal(e)
		}
		m := model{begin: n, now: n}
		for range 8 {
			// Steps that may mostly be done one behind the other.
			var l []api.Step
			next := m
			for range chance.IntN(5) {
				one := stepped(chance, next.now.Tokens())
				if k, e := next.do(s, one); e == api.OK || chance.IntN(8) == 0 {
					l, next = append(l, one), k
				}
			}
			if len(l) == 1 && chance.IntN(2) == 0 {
				k, e := m.do(s, l[0])
				if f := x.Do(l[0]); f != e {
					t.Fatal(l, e, f)
				}
				m = k
			} else {
				k, at, e := m.all(s, l)
				if n, f := x.All(l...); n != at || f != e {
					t.Fatal(l, at, e, n, f)
				}
				m = k
				if e != api.OK && at > 0 {
					count[-1]++
				}
			}
		}
		m.like(t, x)
		for _, one := range m.steps {
			count[one.Kind]++
		}
		if at, e := x.All(x.Undo()...); e != api.OK || at != len(m.steps) || !tree.Same(x.Doc(), n) || x.Len() != 2*len(m.steps) {
			t.Fatalf("%+v: %+v: %d, %v", m.steps, m.undo, at, e)
		}
		// Undone once more, it is as it was.
		redo := x.Undo()[:len(m.steps)]
		if _, e := x.All(redo...); e != api.OK || !tree.Same(x.Doc(), m.now) {
			t.Fatalf("%+v: %+v: %v", m.steps, redo, e)
		}
	}
	for kind := api.Splice; kind <= api.Remark; kind++ {
		if count[kind] < 1000 {
			t.Error(count)
		}
	}
	if count[-1] < 500 {
		t.Error(count)
	}
}
