package moves

import (
	"math/rand/v2"
	"slices"
	"testing"

	"stet/api"
	"stet/fits"
	"stet/schema"
	"stet/step"
	"stet/tree"
)

// grown is a row by chance that is whole, and at most so deep.
func grown(chance *rand.Rand, deep int) []api.Token {
	var l []api.Token
	shut := api.Token{Kind: api.Close}
	for range 1 + chance.IntN(3) {
		switch kind := 2 + chance.IntN(6); {
		case kind == 2 && deep > 0:
			l = slices.Concat(l, []api.Token{{Kind: api.Open, Type: 2, Attr: chance.IntN(3)}}, grown(chance, deep-1), []api.Token{shut})
		case kind == 3 || kind == 4:
			l = slices.Concat(l, paragraph(chance, kind))
		case kind == 6:
			l = slices.Concat(l, []api.Token{{Kind: api.Open, Type: 8}}, paragraph(chance, 3))
			if chance.IntN(2) == 0 {
				l = append(l, api.Token{Kind: api.Leaf, Type: 5})
			}
			if chance.IntN(2) == 0 {
				l = slices.Concat(l, paragraph(chance, 3))
			}
			l = append(l, shut)
		default:
			l = append(l, api.Token{Kind: api.Leaf, Type: 5, Attr: chance.IntN(3)})
		}
	}
	return l
}

// paragraph is a node of a type with letters and leaves by chance.
func paragraph(chance *rand.Rand, typ int) []api.Token {
	l := []api.Token{{Kind: api.Open, Type: typ}}
	for range chance.IntN(4) {
		set := api.Marks{uint16(chance.IntN(2))}
		if typ == 3 && chance.IntN(3) == 0 {
			set = []api.Marks{{0, 5}, {1, 2}, {0, 0, 1}}[chance.IntN(3)]
		}
		switch k := chance.IntN(4); {
		case typ == 3 && k == 0:
			l = append(l, api.Token{Kind: api.Leaf, Type: 6, Marks: set})
		case typ == 3 && k == 1:
			l = append(l, api.Token{Kind: api.Leaf, Type: 7, Attr: chance.IntN(3), Marks: set})
		default:
			l = append(l, api.Token{Kind: api.Char, Rune: rune('a' + chance.IntN(3)), Marks: set})
		}
	}
	return append(l, api.Token{Kind: api.Close})
}

// shutter is where the open token of a row is shut that stands there.
func shutter(l []api.Token, at int) int {
	deep := 0
	for ; ; at++ {
		switch l[at].Kind {
		case api.Open:
			deep++
		case api.Close:
			deep--
		}
		if deep == 0 {
			return at
		}
	}
}

// opened are where the open tokens stand that aren't shut at a position.
func opened(l []api.Token, at int) []int {
	var stack []int
	for i, x := range l[:at] {
		switch x.Kind {
		case api.Open:
			stack = append(stack, i)
		case api.Close:
			stack = stack[:len(stack)-1]
		}
	}
	return stack
}

// flat tells whether of the tokens between each open one is shut, and each close shuts one, token by token.
func flat(l []api.Token, from, to int) bool {
	for at := from; at < to; at++ {
		if l[at].Kind == api.Open && shutter(l, at) >= to {
			return false
		}
		if l[at].Kind == api.Close && !slices.ContainsFunc(opened(l, at), func(i int) bool { return i >= from && shutter(l, i) == at }) {
			return false
		}
	}
	return true
}

// split, join, lift, wrap and retype are the steps that the chapter's words tell of a row; false, where they tell ErrRange.
func split(l []api.Token, at, deep int) (api.Step, bool) {
	around := opened(l, at)
	if deep < 1 || deep > len(around) {
		return api.Step{}, false
	}
	row := slices.Repeat([]api.Token{{Kind: api.Close}}, deep)
	for _, i := range around[len(around)-deep:] {
		row = append(row, l[i])
	}
	return api.Step{Kind: api.Splice, From: at, To: at, Slice: row}, true
}

func join(l []api.Token, at int) (api.Step, bool) {
	if at == 0 || at == len(l) || l[at-1].Kind != api.Close || l[at].Kind != api.Open {
		return api.Step{}, false
	}
	return api.Step{Kind: api.Splice, From: at - 1, To: at + 1}, true
}

func lift(l []api.Token, at int) (api.Step, bool) {
	around := opened(l, at)
	if len(around) == 0 {
		return api.Step{}, false
	}
	from := around[len(around)-1]
	to := shutter(l, from)
	return api.Step{Kind: api.Around, From: from, GapFrom: from + 1, GapTo: to, To: to + 1}, true
}

func wrap(l []api.Token, from, to, typ, attr int) (api.Step, bool) {
	if !flat(l, from, to) {
		return api.Step{}, false
	}
	row := []api.Token{{Kind: api.Open, Type: typ, Attr: attr}, {Kind: api.Close}}
	return api.Step{Kind: api.Around, From: from, To: to, GapFrom: from, GapTo: to, Insert: 1, Slice: row}, true
}

func retype(l []api.Token, at, typ, attr int) (api.Step, bool) {
	if at == len(l) || l[at].Kind == api.Close || l[at].Kind == api.Char {
		return api.Step{}, false
	}
	if l[at].Kind == api.Leaf {
		row := []api.Token{{Kind: api.Leaf, Type: typ, Attr: attr, Marks: l[at].Marks}}
		return api.Step{Kind: api.Splice, From: at, To: at + 1, Slice: row}, true
	}
	to := shutter(l, at)
	row := []api.Token{{Kind: api.Open, Type: typ, Attr: attr}, {Kind: api.Close}}
	return api.Step{Kind: api.Around, From: at, GapFrom: at + 1, GapTo: to, To: to + 1, Insert: 1, Slice: row}, true
}

// tally holds moves against steps, and counts what came of each move.
type tally struct {
	*testing.T
	s     *schema.Schema
	count map[string]map[api.Errno]int
}

// hold holds a move against the step that is asked for, and gives the document that it makes.
func (t *tally) hold(name string, n *tree.Node, x api.Step, e api.Errno, want api.Step, ok bool) *tree.Node {
	t.Helper()
	var m *tree.Node
	f := api.ErrRange
	if ok {
		m, f = step.Apply(t.s, n, want)
	}
	if f != api.OK {
		want = api.Step{}
	}
	if e != f || !step.Same(x, want) {
		t.Fatalf("%s of %v: %+v, %v, not %+v, %v", name, n.Tokens(), x, e, want, f)
	}
	if t.count[name] == nil {
		t.count[name] = map[api.Errno]int{}
	}
	t.count[name][e]++
	return m
}

// back holds a move that undoes another one against the document that there was.
func (t *tally) back(n, m *tree.Node, x api.Step, e api.Errno) {
	t.Helper()
	k, f := step.Apply(t.s, m, x)
	if e != api.OK || f != api.OK || !tree.Same(k, n) {
		t.Fatalf("%v, %v: %+v, %v", n.Tokens(), m.Tokens(), x, e)
	}
}

// P29.1 to P29.4: all moves at all positions of documents by chance, against the words of the chapter, and back.
func TestByChance(t *testing.T) {
	s := made(t)
	chance := rand.New(rand.NewPCG(29, 1))
	k := &tally{t, s, map[string]map[api.Errno]int{}}
	for range 1500 {
		l := grown(chance, 2)
		n, e := fits.Doc(s, l)
		if e != api.OK {
			t.Fatal(e)
		}
		for at := range len(l) + 1 {
			for deep := range 5 {
				x, e := Split(s, n, at, deep)
				want, ok := split(l, at, deep)
				if m := k.hold("split", n, x, e, want, ok); m != nil && deep == 1 {
					x, e = Join(s, m, at+1)
					k.back(n, m, x, e)
				}
			}
			x, e := Join(s, n, at)
			want, ok := join(l, at)
			k.hold("join", n, x, e, want, ok)
			x, e = Lift(s, n, at)
			want, ok = lift(l, at)
			k.hold("lift", n, x, e, want, ok)
			for typ := range 9 {
				attr := chance.IntN(12) / 6
				x, e = Retype(s, n, at, typ, attr)
				want, ok = retype(l, at, typ, attr)
				k.hold("retype", n, x, e, want, ok)
			}
			for to := at; to <= len(l); to++ {
				typ, attr := 2+chance.IntN(7), chance.IntN(12)/10
				x, e = Wrap(s, n, at, to, typ, attr)
				want, ok = wrap(l, at, to, typ, attr)
				if m := k.hold("wrap", n, x, e, want, ok); m != nil {
					x, e = Lift(s, m, at+1)
					k.back(n, m, x, e)
				}
			}
		}
	}
	for name, least := range map[string]map[api.Errno]int{
		"split": {api.OK: 1000, api.ErrRange: 1000, api.ErrFit: 200}, "join": {api.OK: 200, api.ErrRange: 1000, api.ErrFit: 50, api.ErrMark: 5}, "lift": {api.OK: 500, api.ErrRange: 200, api.ErrFit: 500},
		"retype": {api.OK: 1000, api.ErrRange: 1000, api.ErrArg: 1000, api.ErrFit: 1000, api.ErrMark: 20}, "wrap": {api.OK: 300, api.ErrRange: 1000, api.ErrArg: 500, api.ErrFit: 500},
	} {
		for e, few := range least {
			if k.count[name][e] < few {
				t.Error(name, k.count[name])
			}
		}
	}
}
