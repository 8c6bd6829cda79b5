package step

import (
	"math/rand/v2"
	"slices"
	"testing"

	"stet/api"
	"stet/fits"
	"stet/marks"
	"stet/schema"
	"stet/smap"
	"stet/token"
	"stet/tree"
)

// grown is a row by chance that is whole, and at most so deep.
func grown(chance *rand.Rand, deep int) []api.Token {
	var l []api.Token
	for range 1 + chance.IntN(3) {
		switch kind := 2 + chance.IntN(4); {
		case kind == 2 && deep > 0:
			l = slices.Concat(l, []api.Token{{Kind: api.Open, Type: kind, Attr: chance.IntN(2)}}, grown(chance, deep-1), []api.Token{{Kind: api.Close}})
		case kind == 3 || kind == 4:
			l = append(l, api.Token{Kind: api.Open, Type: kind})
			for range chance.IntN(4) {
				l = append(l, inline(chance, kind))
			}
			l = append(l, api.Token{Kind: api.Close})
		default:
			l = append(l, api.Token{Kind: api.Leaf, Type: 5})
		}
	}
	return l
}

// set is a set by chance that may be in a type.
func set(chance *rand.Rand, typ int) api.Marks {
	if typ == 4 {
		return api.Marks{uint16(chance.IntN(2))}
	}
	return []api.Marks{{}, {}, {1}, {0, 5}, {1, 5}, {0, 0, 1}, {0, 0, 0, 1}, {0, 5, 0, 1}}[chance.IntN(8)]
}

// inline is a token by chance that may stand in a type.
func inline(chance *rand.Rand, typ int) api.Token {
	if typ == 3 && chance.IntN(3) == 0 {
		return api.Token{Kind: api.Leaf, Type: 6, Marks: set(chance, typ)}
	}
	return api.Token{Kind: api.Char, Rune: rune('a' + chance.IntN(3)), Marks: set(chance, typ)}
}

// stretches are where nodes of a row begin and end, and where what is within them does.
func stretches(l []api.Token) [][2]int {
	found := [][2]int{{0, len(l)}}
	var opens []int
	for at, x := range l {
		switch x.Kind {
		case api.Open:
			opens = append(opens, at)
		case api.Close:
			from := opens[len(opens)-1]
			opens = opens[:len(opens)-1]
			found = append(found, [2]int{from, at + 1}, [2]int{from + 1, at})
		default:
			found = append(found, [2]int{at, at + 1})
		}
	}
	return found
}

// ends are two positions by chance, which are often those of nodes.
func ends(chance *rand.Rand, l []api.Token) (int, int) {
	if chance.IntN(3) > 0 {
		found := stretches(l)
		one := found[chance.IntN(len(found))]
		return one[0], one[1]
	}
	from := chance.IntN(len(l) + 1)
	return from, from + chance.IntN(len(l)-from+1)
}

// stepped is a step by chance, most often one whose shape is right.
func stepped(chance *rand.Rand, l []api.Token) api.Step {
	from, to := ends(chance, l)
	x := api.Step{Kind: 1 + chance.IntN(5), From: from, To: to}
	switch x.Kind {
	case api.Splice:
		if other := grown(chance, 1); chance.IntN(3) > 0 {
			from, to = ends(chance, other)
			x.Slice = other[from:to]
		}
		if chance.IntN(3) == 0 {
			x.From = x.To
		}
	case api.Around:
		open, shut := api.Token{Kind: api.Open, Type: 2 + chance.IntN(3)}, api.Token{Kind: api.Close}
		x.GapFrom, x.GapTo = from, to
		if to-from > 1 && chance.IntN(2) == 0 {
			x.GapFrom, x.GapTo = from+1, to-1
		}
		if chance.IntN(5) == 0 && to > from {
			x.GapFrom = from + chance.IntN(to-from)
			x.GapTo = x.GapFrom + chance.IntN(to-x.GapFrom)
		}
		if deep := chance.IntN(3); deep > 0 {
			x.Slice = slices.Concat(slices.Repeat([]api.Token{open}, deep), slices.Repeat([]api.Token{shut}, deep))
			x.Insert = max(deep-chance.IntN(7)/6, 0)
		}
	case api.Remark:
		for at := from; at < to; at++ {
			if token.Same(l[at:at+1], []api.Token{{Kind: api.Close}}) || l[at].Kind == api.Open || l[at].Type == 5 {
				x.Sets = append(x.Sets, api.Marks{uint16(chance.IntN(60) / 59)})
			} else {
				x.Sets = append(x.Sets, set(chance, 3+chance.IntN(2)))
			}
		}
	default:
		x.Mark, x.Value = chance.IntN(4), 0
		if x.Mark == 1 {
			x.Value = []int{4, 4, 9, 0}[chance.IntN(4)]
		}
	}
	return x
}

// parents are the types of the nodes in which a row's tokens stand.
func parents(l []api.Token) []int {
	open, told := []int{1}, []int{}
	for _, x := range l {
		if x.Kind == api.Close {
			open = open[:len(open)-1]
		}
		told = append(told, open[len(open)-1])
		if x.Kind == api.Open {
			open = append(open, x.Type)
		}
	}
	return told
}

// done is what comes of a row by a step, as the words of the chapter say it.
func done(s *schema.Schema, l []api.Token, x api.Step) []api.Token {
	switch x.Kind {
	case api.Splice:
		return slices.Concat(l[:x.From], x.Slice, l[x.To:])
	case api.Around:
		return slices.Concat(l[:x.From], x.Slice[:x.Insert], l[x.GapFrom:x.GapTo], x.Slice[x.Insert:], l[x.To:])
	}
	in, now := parents(l), slices.Clone(l)
	for at := x.From; at < x.To; at++ {
		one := &now[at]
		if one.Kind != api.Char && (one.Kind != api.Leaf || one.Type != 6) {
			continue
		}
		switch {
		case x.Kind == api.Remark:
			one.Marks = x.Sets[at-x.From]
		case !s.Allows(in[at], x.Mark):
		case x.Kind == api.AddMark:
			one.Marks, _ = marks.Add(s, one.Marks, x.Mark, x.Value)
		default:
			one.Marks, _ = marks.Remove(one.Marks, x.Mark, x.Value)
		}
	}
	return now
}

// refused tells whether a remark has a set for what isn't inline.
func refused(s *schema.Schema, l []api.Token, x api.Step) bool {
	for i, m := range x.Sets {
		if m != (api.Marks{}) && !token.Inline(s, l[x.From+i]) {
			return true
		}
	}
	return false
}

// held holds what a step does, and what undoes it, against the words of the chapter.
func held(t *testing.T, s *schema.Schema, n *tree.Node, x api.Step) api.Errno {
	t.Helper()
	l := n.Tokens()
	if !Shape(x) || !Right(s, x) {
		t.Fatalf("%+v isn't right", x)
	}
	want, f := fits.Doc(s, done(s, l, x))
	if refused(s, l, x) {
		want, f = nil, api.ErrMark
	}
	m, e := Apply(s, n, x)
	y, g := Invert(s, n, x)
	if e != f || g != f || !tree.Same(m, want) {
		t.Fatalf("%+v: %v, %v, %v, not %v", x, m, e, g, f)
	}
	if e != api.OK {
		if !Same(y, api.Step{}) {
			t.Fatalf("%+v: %+v", x, y)
		}
		return e
	}
	undone(t, s, n, m, x, y)
	return e
}

// undone holds a step's inverse against what there was.
func undone(t *testing.T, s *schema.Schema, n, m *tree.Node, x, y api.Step) {
	t.Helper()
	back, e := Apply(s, m, y)
	if e != api.OK || !tree.Same(back, n) || !Right(s, y) || !slices.Equal(Map(y), smap.Invert(Map(x))) {
		t.Fatalf("%+v: %+v, %v, %v", x, y, back, e)
	}
	z, e := Invert(s, m, y)
	if e != api.OK {
		t.Fatalf("%+v: %+v, %v", x, y, e)
	}
	if x.Kind == api.Splice || x.Kind == api.Around {
		if y.Kind != x.Kind || !Same(z, x) {
			t.Fatalf("%+v: %+v, %+v", x, y, z)
		}
		return
	}
	if y.Kind != api.Remark || y.From != x.From || y.To != x.To || len(y.Slice) > 0 {
		t.Fatalf("%+v: %+v", x, y)
	}
	for i, one := range n.Tokens()[x.From:x.To] {
		if y.Sets[i] != one.Marks {
			t.Fatalf("%+v: %+v", x, y)
		}
	}
	if again, e := Apply(s, back, z); e != api.OK || !tree.Same(again, m) {
		t.Fatalf("%+v: %+v, %v", x, z, e)
	}
}

// P25.2 to P25.4: steps by chance, and what undoes them.
func TestByChance(t *testing.T) {
	s := made(t)
	chance := rand.New(rand.NewPCG(25, 1))
	var count [6]map[api.Errno]int
	for i := range count {
		count[i] = map[api.Errno]int{}
	}
	for range 1500 {
		l := grown(chance, 2)
		n, e := fits.Doc(s, l)
		if e != api.OK {
			t.Fatal(e)
		}
		for range 40 {
			x := stepped(chance, l)
			count[x.Kind][held(t, s, n, x)]++
		}
	}
	for kind, least := range []map[api.Errno]int{nil, {api.OK: 2000, api.ErrOpen: 300, api.ErrFit: 300, api.ErrMark: 10}, {api.OK: 2000, api.ErrOpen: 300, api.ErrFit: 300, api.ErrMark: 10}, {api.OK: 2000}, {api.OK: 2000}, {api.OK: 2000, api.ErrMark: 300}} {
		for e, few := range least {
			if count[kind][e] < few {
				t.Error(kind, count[kind])
			}
		}
	}
}

// P25.2 to P25.4: all splices of a document with some rows, all arounds of it with one token ahead and one behind, and all stretches with each mark.
func TestAllSteps(t *testing.T) {
	s := made(t)
	n := doc(t, s, `<q <p "a b"b > > *hr <h "c >`)
	size := n.Size() - 2
	count := map[api.Errno]int{}
	for from := range size + 1 {
		for to := from; to <= size; to++ {
			for _, row := range []string{``, `"x`, `> <p`, `> > <q <p`, `*hr`, `>`, `<h`, `<p >`} {
				count[held(t, s, n, api.Step{Kind: api.Splice, From: from, To: to, Slice: parsed(t, s, row)})]++
			}
			for mark := range 4 {
				count[held(t, s, n, api.Step{Kind: api.AddMark, From: from, To: to, Mark: mark})]++
				count[held(t, s, n, api.Step{Kind: api.RemoveMark, From: from, To: to, Mark: mark})]++
			}
			for gapFrom := from; gapFrom <= to; gapFrom++ {
				for gapTo := gapFrom; gapTo <= to; gapTo++ {
					for _, row := range []string{``, `<q >`, `<p >`, `> <h`} {
						l := parsed(t, s, row)
						for insert := range len(l) + 1 {
							count[held(t, s, n, api.Step{Kind: api.Around, From: from, To: to, GapFrom: gapFrom, GapTo: gapTo, Insert: insert, Slice: l})]++
						}
					}
				}
			}
		}
	}
	if count[api.OK] < 1000 || count[api.ErrOpen] < 1000 || count[api.ErrFit] < 100 {
		t.Error(count)
	}
}

// P25.1: shapes by chance against the words of the chapter.
func TestShapeByChance(t *testing.T) {
	chance := rand.New(rand.NewPCG(25, 2))
	right := map[int]int{}
	for range 200000 {
		n := func(most int) int {
			if chance.IntN(2) == 0 {
				return 0
			}
			return chance.IntN(most) - chance.IntN(10)/9
		}
		x := api.Step{Kind: chance.IntN(7), From: n(4), To: n(7), Slice: closes(max(n(3), 0)), Sets: sets(max(n(4), 0))}
		if chance.IntN(2) == 0 {
			x.GapFrom, x.GapTo, x.Insert = n(5), n(7), n(4)
		}
		if chance.IntN(2) == 0 {
			x.Mark, x.Value = n(4), n(4)
		}
		gap := x.GapFrom == 0 && x.GapTo == 0 && x.Insert == 0
		mark := x.Mark == 0 && x.Value == 0
		want := x.From >= 0 && x.To >= x.From
		switch x.Kind {
		case api.Splice:
			want = want && gap && mark && len(x.Sets) == 0
		case api.Around:
			want = want && mark && len(x.Sets) == 0 && x.GapFrom >= x.From && x.GapTo >= x.GapFrom && x.To >= x.GapTo && x.Insert >= 0 && x.Insert <= len(x.Slice)
		case api.AddMark, api.RemoveMark:
			want = want && gap && len(x.Sets) == 0 && len(x.Slice) == 0
		case api.Remark:
			want = want && gap && mark && len(x.Slice) == 0 && len(x.Sets) == x.To-x.From
		default:
			want = false
		}
		if Shape(x) != want || (Map(x) != nil) != (want && x.Kind <= api.Around) {
			t.Fatalf("%+v: %v", x, !want)
		}
		if want {
			right[x.Kind]++
		}
	}
	for kind := api.Splice; kind <= api.Remark; kind++ {
		if right[kind] < 300 {
			t.Error(right)
		}
	}
}
