package step

import (
	"slices"
	"testing"

	"stet/api"
	"stet/fits"
	"stet/schema"
	"stet/smap"
	"stet/token"
	"stet/tree"
)

const (
	least = -1 << 63
	great = 1<<63 - 1
)

// made is the schema that the tests know: doc is 1, q 2, p 3, h 4, hr 5, br 6; b is the mark 0, i 1, code 2, out 3.
func made(t testing.TB) *schema.Schema {
	t.Helper()
	s, e := schema.New("mark b\nmark i val=9\nmark code bars=*\nmark out bars=b\nnode doc : (q|p|h|hr)*\nnode q attr=9 : (q|p|h|hr)+\nnode p marks=* : (text|br)*\nnode h marks=b : text*\nnode hr\nnode br inline\n")
	if e != api.OK {
		t.Fatal(e)
	}
	return s
}

// parsed are a line's tokens.
func parsed(t testing.TB, s *schema.Schema, line string) []api.Token {
	t.Helper()
	l, at, e := token.Parse(s, line)
	if e != api.OK {
		t.Fatal(line, at, e)
	}
	return l
}

// doc is a line's document.
func doc(t testing.TB, s *schema.Schema, line string) *tree.Node {
	t.Helper()
	n, e := fits.Doc(s, parsed(t, s, line))
	if e != api.OK {
		t.Fatal(line, e)
	}
	return n
}

// line is a document's line.
func line(t testing.TB, s *schema.Schema, n *tree.Node) string {
	t.Helper()
	w, ok := token.Show(s, n.Tokens())
	if !ok {
		t.Fatal(n)
	}
	return w
}

// sets are so many empty sets.
func sets(n int) []api.Marks { return make([]api.Marks, n) }

// closes are so many closes, and some room behind them.
func closes(n int) []api.Token { return slices.Repeat([]api.Token{{Kind: api.Close}}, n) }

// shapes are steps whose shape is right, of each kind.
func shapes() []api.Step {
	return []api.Step{
		{Kind: api.Splice}, {Kind: api.Splice, From: 3, To: 3}, {Kind: api.Splice, From: 3, To: 9, Slice: closes(2)}, {Kind: api.Splice, To: 1 << 30}, {Kind: api.Splice, From: 1 << 30, To: 1 << 30, Slice: closes(20000)}, {Kind: api.Splice, Slice: []api.Token{}, Sets: []api.Marks{}}, {Kind: api.Splice, Slice: make([]api.Token, 3)},
		{Kind: api.Around}, {Kind: api.Around, From: 3, To: 9, GapFrom: 4, GapTo: 8, Insert: 1, Slice: closes(2)}, {Kind: api.Around, From: 3, To: 9, GapFrom: 3, GapTo: 9}, {Kind: api.Around, From: 3, To: 9, GapFrom: 9, GapTo: 9, Insert: 2, Slice: closes(2)}, {Kind: api.Around, From: 3, To: 9, GapFrom: 3, GapTo: 3, Slice: closes(2)}, {Kind: api.Around, To: 1 << 30, GapTo: 1 << 30, Insert: 20000, Slice: closes(20000), Sets: sets(0)},
		{Kind: api.AddMark}, {Kind: api.AddMark, From: 3, To: 9, Mark: 7, Value: 999}, {Kind: api.AddMark, To: 1 << 30, Mark: least, Value: great}, {Kind: api.RemoveMark}, {Kind: api.RemoveMark, From: 9, To: 9, Mark: great, Value: -1, Slice: closes(0)},
		{Kind: api.Remark}, {Kind: api.Remark, From: 3, To: 5, Sets: sets(2)}, {Kind: api.Remark, From: 5, To: 6, Sets: []api.Marks{{65535, 1}}}, {Kind: api.Remark, From: 1 << 30, To: 1 << 30}, {Kind: api.Remark, From: 7, To: 20007, Sets: sets(20000), Slice: closes(0)},
	}
}

// P25.1: which shapes are right, and that nothing else may be told of a kind.
func TestShape(t *testing.T) {
	told := map[int][10]bool{
		api.Splice:  {true, true, true, false, false, false, false, false, true, false},
		api.Around:  {true, true, true, true, true, true, false, false, true, false},
		api.AddMark: {true, true, true, false, false, false, true, true, false, false}, api.RemoveMark: {true, true, true, false, false, false, true, true, false, false},
		api.Remark: {true, true, true, false, false, false, false, false, false, true},
	}
	s := made(t)
	for _, x := range shapes() {
		if !Shape(x) {
			t.Errorf("%.200v isn't right", x)
		}
		for i, more := range fields(x) {
			if told[x.Kind][i] || Same(x, more) {
				continue
			}
			if Shape(more) || Right(s, more) || Map(more) != nil {
				t.Errorf("%.200v is right", more)
			}
		}
		for _, kind := range []int{least, -1, 0, 6, 7, 1<<32 + 1, 1<<32 + x.Kind, great} {
			other := x
			other.Kind = kind
			if Shape(other) || Right(s, other) || Map(other) != nil {
				t.Errorf("%.200v is right", other)
			}
		}
	}
}

// fields is a step with each of its fields turned.
func fields(x api.Step) [10]api.Step {
	var l [10]api.Step
	for i := range l {
		l[i] = x
		l[i].Slice, l[i].Sets = slices.Clone(x.Slice), slices.Clone(x.Sets)
	}
	for i, n := range []*int{&l[0].Kind, &l[1].From, &l[2].To, &l[3].GapFrom, &l[4].GapTo, &l[5].Insert, &l[6].Mark, &l[7].Value} {
		*n++
		if i == 0 {
			*n += 100
		}
	}
	l[8].Slice = append(l[8].Slice, api.Token{Kind: api.Close})
	l[9].Sets = append(l[9].Sets, api.Marks{})
	return l
}

// P25.1, P5: shapes that aren't right by their numbers, and by how long their lists are.
func TestWrongShapes(t *testing.T) {
	s := made(t)
	var l []api.Step
	for _, x := range []api.Step{{Kind: api.Splice, Slice: closes(2)}, {Kind: api.AddMark}, {Kind: api.RemoveMark}, {Kind: api.Around}, {Kind: api.Remark}} {
		for _, ends := range [][2]int{{-1, 0}, {-1, -1}, {1, 0}, {5, 4}, {0, -1}, {0, 1<<30 + 1}, {1<<30 + 1, 1<<30 + 1}, {1<<32 + 3, 1<<32 + 3}, {0, 1 << 32}, {least, great}, {great, least}, {great, great}, {least, least}, {0, great}, {least, 0}} {
			x.From, x.To = ends[0], ends[1]
			if x.Kind == api.Around {
				x.GapFrom, x.GapTo = x.From, x.To
			}
			l = append(l, x)
			if x.Kind == api.Remark {
				x.Sets = sets(1)
				l = append(l, x)
			}
		}
	}
	for _, n := range []int{20001, 70000} {
		l = append(l, api.Step{Kind: api.Splice, Slice: closes(n)}, api.Step{Kind: api.Around, Insert: 1, Slice: closes(n)}, api.Step{Kind: api.Remark, To: n, Sets: sets(n)})
	}
	for _, n := range []int{0, 1, 3, 4} {
		l = append(l, api.Step{Kind: api.Remark, From: 4, To: 6, Sets: sets(n)})
	}
	for _, gap := range [][3]int{{2, 8, 1}, {10, 10, 1}, {4, 10, 1}, {8, 4, 1}, {2, 2, 1}, {4, 8, -1}, {4, 8, 3}, {4, 8, least}, {4, 8, great}, {least, great, 1}, {great, great, 1}, {least, least, 1}, {4, great, 1}, {least, 8, 1}, {4, 8, 1<<32 + 1}, {1<<32 + 4, 1<<32 + 8, 1}, {0, 0, 1}, {4, 0, 1}, {9, 8, 1}} {
		l = append(l, api.Step{Kind: api.Around, From: 3, To: 9, GapFrom: gap[0], GapTo: gap[1], Insert: gap[2], Slice: closes(2)})
	}
	n := doc(t, s, `<p "abc > <p "defg >`)
	for _, x := range l {
		if Shape(x) || Right(s, x) || Right(nil, x) || Map(x) != nil {
			t.Errorf("%.200v is right", x)
		}
		if m, e := Apply(s, n, x); m != nil || e != api.ErrArg {
			t.Errorf("%.200v: %v, %v", x, m, e)
		}
		if y, e := Invert(s, n, x); !Same(y, api.Step{}) || e != api.ErrArg {
			t.Errorf("%.200v: %v, %v", x, y, e)
		}
	}
}

// P25.1: what a schema allows of the tokens, the sets and the mark of a step.
func TestRight(t *testing.T) {
	s := made(t)
	row := func(line string) []api.Token { return parsed(t, s, line) }
	for i, x := range []struct {
		x    api.Step
		want bool
	}{
		{api.Step{Kind: api.Splice}, true}, {api.Step{Kind: api.Splice, From: 7, To: 1 << 30, Slice: row(`> <h b+i=9"a *br *hr`)}, true},
		{api.Step{Kind: api.Splice, Slice: []api.Token{{Kind: api.Close}, {}}}, false}, {api.Step{Kind: api.Splice, Slice: []api.Token{{Kind: api.Open, Type: 5}}}, false}, {api.Step{Kind: api.Splice, Slice: []api.Token{{Kind: api.Char, Rune: 'a', Marks: api.Marks{1, 0, 1}}}}, false}, {api.Step{Kind: api.Splice, Slice: []api.Token{{Kind: api.Open, Type: 2, Attr: 10}}}, false},
		{api.Step{Kind: api.Around, Insert: 1, Slice: row(`<q=9 >`)}, true}, {api.Step{Kind: api.Around, Insert: 1, Slice: []api.Token{{Kind: api.Open, Type: 2}, {Kind: api.Close, Type: 1}}}, false}, {api.Step{Kind: api.Around, Insert: 1, Slice: []api.Token{{Kind: api.Open, Type: 1 << 32}}}, false},
		{api.Step{Kind: api.AddMark}, true}, {api.Step{Kind: api.AddMark, Mark: 1, Value: 9}, true}, {api.Step{Kind: api.AddMark, Mark: 2}, true}, {api.Step{Kind: api.AddMark, Mark: 3}, true}, {api.Step{Kind: api.RemoveMark, Mark: 3}, true}, {api.Step{Kind: api.RemoveMark, Mark: 1, Value: 9}, true},
		{api.Step{Kind: api.AddMark, Mark: 4}, false}, {api.Step{Kind: api.AddMark, Mark: -1}, false}, {api.Step{Kind: api.AddMark, Mark: 1, Value: 10}, false}, {api.Step{Kind: api.AddMark, Value: 1}, false}, {api.Step{Kind: api.AddMark, Value: -1}, false}, {api.Step{Kind: api.AddMark, Mark: 1 << 32}, false}, {api.Step{Kind: api.AddMark, Value: 1 << 32}, false}, {api.Step{Kind: api.AddMark, Mark: 1, Value: 65536}, false},
		{api.Step{Kind: api.RemoveMark, Mark: 4}, false}, {api.Step{Kind: api.RemoveMark, Mark: least}, false}, {api.Step{Kind: api.RemoveMark, Mark: 1, Value: 10}, false}, {api.Step{Kind: api.RemoveMark, Mark: 2, Value: 1}, false}, {api.Step{Kind: api.RemoveMark, Mark: 1, Value: great}, false}, {api.Step{Kind: api.RemoveMark, Mark: 8}, false},
		{api.Step{Kind: api.Remark}, true}, {api.Step{Kind: api.Remark, To: 3, Sets: []api.Marks{{1, 10}, {}, {0, 0, 1}}}, true}, {api.Step{Kind: api.Remark, To: 2, Sets: []api.Marks{{}, {2}}}, false}, {api.Step{Kind: api.Remark, To: 2, Sets: []api.Marks{{1, 0, 1}, {}}}, false}, {api.Step{Kind: api.Remark, To: 1, Sets: []api.Marks{{0, 11}}}, false}, {api.Step{Kind: api.Remark, To: 1, Sets: []api.Marks{{0, 0, 0, 0, 1}}}, false}, {api.Step{Kind: api.Remark, To: 1, Sets: []api.Marks{{1, 0, 0, 1}}}, false},
	} {
		if Right(s, x.x) != x.want || !Shape(x.x) || Right(nil, x.x) {
			t.Error(i, x.x, Right(s, x.x))
		}
		m, e := Apply(s, tree.Make(api.Token{Kind: api.Open, Type: 1}), x.x)
		if (e == api.ErrArg) == x.want || (m == nil) != (e != api.OK) {
			t.Error(i, x.x, m, e)
		}
	}
}

// P25.1: steps' maps.
func TestMap(t *testing.T) {
	for i, x := range []struct {
		x    api.Step
		want []api.Range
	}{
		{api.Step{Kind: api.Splice, From: 2, To: 5, Slice: closes(7)}, []api.Range{{At: 2, Old: 3, New: 7}}}, {api.Step{Kind: api.Splice, From: 2, To: 2}, []api.Range{{At: 2}}}, {api.Step{Kind: api.Splice, To: 1 << 30, Slice: closes(20000)}, []api.Range{{Old: 1 << 30, New: 20000}}},
		{api.Step{Kind: api.Around, From: 2, To: 9, GapFrom: 3, GapTo: 7, Insert: 4, Slice: closes(5)}, []api.Range{{At: 2, Old: 1, New: 4}, {At: 7, Old: 2, New: 1}}}, {api.Step{Kind: api.Around, From: 2, To: 3, GapFrom: 2, GapTo: 3}, []api.Range{{At: 2}, {At: 3}}},
		{api.Step{Kind: api.Around, From: 2, To: 9, GapFrom: 7, GapTo: 7, Insert: 4, Slice: closes(5)}, []api.Range{{At: 2, Old: 7, New: 5}}}, {api.Step{Kind: api.Around, From: 4, To: 4, GapFrom: 4, GapTo: 4}, []api.Range{{At: 4}}}, {api.Step{Kind: api.Around, From: 2, To: 9, GapFrom: 2, GapTo: 2, Insert: 1, Slice: closes(1)}, []api.Range{{At: 2, Old: 7, New: 1}}},
		{api.Step{Kind: api.AddMark, From: 2, To: 5, Mark: 3}, nil}, {api.Step{Kind: api.RemoveMark, From: 2, To: 5, Mark: 3}, nil}, {api.Step{Kind: api.Remark, From: 2, To: 4, Sets: sets(2)}, nil}, {api.Step{}, nil},
	} {
		for range 2 {
			m := Map(x.x)
			if !slices.Equal(m, x.want) || !smap.Right(m) {
				t.Error(i, m)
			}
			clear(m)
		}
	}
	for _, x := range shapes() {
		if m := Map(x); !smap.Right(m) || (len(m) > 0) != (x.Kind < api.AddMark) {
			t.Errorf("%.200v: %v", x, m)
		}
	}
}

// P25.1: each field tells steps apart, and so does each element of a list; empty lists are the same as none.
func TestSame(t *testing.T) {
	l := append(shapes(), api.Step{}, api.Step{Kind: -5, From: least, To: great, GapFrom: 3, GapTo: 4, Insert: 5, Mark: 6, Value: 7, Slice: []api.Token{{Kind: 9}, {Rune: -1}}, Sets: []api.Marks{{1}, {7: 65535}}})
	for i, x := range l {
		y := x
		y.Slice, y.Sets = append([]api.Token{}, x.Slice...), append([]api.Marks{}, x.Sets...)
		if !Same(x, y) || !Same(y, x) || !Same(x, x) {
			t.Errorf("%.200v isn't the same", x)
		}
		for k, more := range fields(x) {
			if Same(x, more) || Same(more, x) {
				t.Errorf("%d: %.200v is the same", k, more)
			}
		}
		for k := range min(len(y.Slice), 3) {
			y.Slice[k].Marks[7]++
			if Same(x, y) || Same(y, x) {
				t.Errorf("%.200v is the same", y)
			}
			y.Slice[k].Marks[7]--
		}
		for k := range min(len(y.Sets), 3) {
			y.Sets[k][0]++
			if Same(x, y) || Same(y, x) {
				t.Errorf("%.200v is the same", y)
			}
			y.Sets[k][0]--
		}
		for k, other := range l {
			if Same(x, other) != (k == i) && !(x.Kind == api.Splice && x.To == 0 && len(x.Slice) == 0) {
				t.Errorf("%.200v and %.200v", x, other)
			}
		}
	}
}

const all = `<q=3 <p "ab b"c > <h "d > > *hr <p *br i=4"x >`

// P25.2, P25.3: what each kind does, and what undoes it.
func TestApply(t *testing.T) {
	s := made(t)
	n := doc(t, s, all)
	row := func(line string) []api.Token { return parsed(t, s, line) }
	remark := func(from int, sets ...api.Marks) api.Step {
		return api.Step{Kind: api.Remark, From: from, To: from + len(sets), Sets: sets}
	}
	b := api.Marks{1}
	was := []api.Marks{{}, {}, {}, {}, b, {}, {}, {}, {}, {}, {}, {}, {}, {0, 5}, {}}
	for _, x := range []struct {
		x    api.Step
		want string
		back api.Step
	}{
		{api.Step{Kind: api.Splice, From: 3, To: 3, Slice: row(`> <p`)}, `<q=3 <p "a > <p "b b"c > <h "d > > *hr <p *br i=4"x >`, api.Step{Kind: api.Splice, From: 3, To: 5}},
		{api.Step{Kind: api.Splice, From: 0, To: 15}, ``, api.Step{Kind: api.Splice, Slice: row(all)}}, {api.Step{Kind: api.Splice, From: 15, To: 15, Slice: row(`*hr *hr`)}, all + ` *hr *hr`, api.Step{Kind: api.Splice, From: 15, To: 17}}, {api.Step{Kind: api.Splice}, all, api.Step{Kind: api.Splice}},
		{api.Step{Kind: api.Splice, From: 10, To: 11, Slice: row(`<h >`)}, `<q=3 <p "ab b"c > <h "d > > <h > <p *br i=4"x >`, api.Step{Kind: api.Splice, From: 10, To: 12, Slice: row(`*hr`)}},
		{api.Step{Kind: api.Around, From: 0, To: 10, GapFrom: 1, GapTo: 9}, `<p "ab b"c > <h "d > *hr <p *br i=4"x >`, api.Step{Kind: api.Around, To: 8, GapTo: 8, Insert: 1, Slice: row(`<q=3 >`)}},
		{api.Step{Kind: api.Around, From: 10, To: 11, GapFrom: 10, GapTo: 11, Insert: 2, Slice: row(`<q <q > >`)}, `<q=3 <p "ab b"c > <h "d > > <q <q *hr > > <p *br i=4"x >`, api.Step{Kind: api.Around, From: 10, To: 15, GapFrom: 12, GapTo: 13}},
		{api.Step{Kind: api.Around, From: 1, To: 6, GapFrom: 2, GapTo: 5, Insert: 1, Slice: row(`<h >`)}, `<q=3 <h "ab b"c > <h "d > > *hr <p *br i=4"x >`, api.Step{Kind: api.Around, From: 1, To: 6, GapFrom: 2, GapTo: 5, Insert: 1, Slice: row(`<p >`)}},
		{api.Step{Kind: api.Around, From: 2, To: 5, GapFrom: 3, GapTo: 4, Insert: 3, Slice: row(`"xyz b"q`)}, `<q=3 <p "xyzb b"q > <h "d > > *hr <p *br i=4"x >`, api.Step{Kind: api.Around, From: 2, To: 7, GapFrom: 5, GapTo: 6, Insert: 1, Slice: row(`"a b"c`)}},
		{api.Step{Kind: api.Around, From: 2, To: 5, GapFrom: 4, GapTo: 4, Insert: 1, Slice: row(`"xy`)}, `<q=3 <p "xy > <h "d > > *hr <p *br i=4"x >`, api.Step{Kind: api.Around, From: 2, To: 4, GapFrom: 3, GapTo: 3, Insert: 2, Slice: row(`"ab b"c`)}},
		{api.Step{Kind: api.AddMark, To: 15}, `<q=3 <p b"abc > <h b"d > > *hr <p b*br b+i=4"x >`, remark(0, was...)}, {api.Step{Kind: api.AddMark, From: 3, To: 4}, `<q=3 <p "a b"bc > <h "d > > *hr <p *br i=4"x >`, remark(3, api.Marks{})},
		{api.Step{Kind: api.AddMark, To: 15, Mark: 1, Value: 9}, `<q=3 <p i=9"ab b+i=9"c > <h "d > > *hr <p i=9*br i=9"x >`, remark(0, was...)}, {api.Step{Kind: api.AddMark, To: 15, Mark: 2}, `<q=3 <p code"abc > <h "d > > *hr <p code*br code"x >`, remark(0, was...)}, {api.Step{Kind: api.AddMark, From: 4, To: 14, Mark: 3}, `<q=3 <p "ab out"c > <h "d > > *hr <p out*br i=4+out"x >`, remark(4, was[4:14]...)},
		{api.Step{Kind: api.AddMark, From: 5, To: 7, Mark: 2}, all, remark(5, sets(2)...)}, {api.Step{Kind: api.AddMark, From: 4, To: 4, Mark: 2}, all, remark(4)},
		{api.Step{Kind: api.RemoveMark, To: 15}, `<q=3 <p "abc > <h "d > > *hr <p *br i=4"x >`, remark(0, was...)}, {api.Step{Kind: api.RemoveMark, To: 15, Mark: 1}, all, remark(0, was...)}, {api.Step{Kind: api.RemoveMark, To: 15, Mark: 1, Value: 4}, `<q=3 <p "ab b"c > <h "d > > *hr <p *br "x >`, remark(0, was...)}, {api.Step{Kind: api.RemoveMark, To: 13, Mark: 1, Value: 4}, all, remark(0, was[:13]...)}, {api.Step{Kind: api.RemoveMark, To: 4}, all, remark(0, was[:4]...)},
		{remark(3, api.Marks{0, 3}, api.Marks{}, api.Marks{}), `<q=3 <p "a i=2"b "c > <h "d > > *hr <p *br i=4"x >`, remark(3, api.Marks{}, b, api.Marks{})}, {remark(12, b, b), `<q=3 <p "ab b"c > <h "d > > *hr <p b*br b"x >`, remark(12, was[12:14]...)}, {remark(0, sets(15)...), `<q=3 <p "abc > <h "d > > *hr <p *br "x >`, remark(0, was...)}, {remark(15), all, remark(15)}, {remark(4, b), all, remark(4, b)},
	} {
		m, e := Apply(s, n, x.x)
		y, f := Invert(s, n, x.x)
		if e != api.OK || f != api.OK || line(t, s, m) != x.want || !Same(y, x.back) {
			t.Errorf("%+v: %v, %v, %+v, %v", x.x, m, e, y, f)
			continue
		}
		if back, e := Apply(s, m, y); e != api.OK || !tree.Same(back, n) || !slices.Equal(Map(y), smap.Invert(Map(x.x))) {
			t.Errorf("%+v: %v, %v", x.x, back, e)
		}
	}
	if line(t, s, n) != all {
		t.Error(line(t, s, n))
	}
}

// P25.2, P25.3: the example.
func TestExample(t *testing.T) {
	s := made(t)
	n := doc(t, s, `<p "ab >`)
	x := api.Step{Kind: api.Splice, From: 2, To: 2, Slice: parsed(t, s, `> <p`)}
	if m, e := Apply(s, n, x); e != api.OK || line(t, s, m) != `<p "a > <p "b >` {
		t.Error(m, e)
	}
	if y, e := Invert(s, n, x); e != api.OK || !Same(y, api.Step{Kind: api.Splice, From: 2, To: 4}) {
		t.Error(y, e)
	}
}

// P25.2: what bars another mark takes its place, and what is barred is left out, token by token.
func TestBars(t *testing.T) {
	s := made(t)
	n := doc(t, s, `<p "a b"b i=9"c b+i"d code"e out"f i=2+out"g b*br code*br >`)
	for i, x := range []struct {
		kind, mark, value int
		want              string
	}{
		{api.AddMark, 0, 0, `<p b"ab b+i=9"c b+i"d code"e out"f i=2+out"g b*br code*br >`},
		{api.AddMark, 1, 9, `<p i=9"a b+i=9"b i=9"c b+i=9"d code"e i=9+out"fg b+i=9*br code*br >`},
		{api.AddMark, 2, 0, `<p code"abcdefg code*br code*br >`},
		{api.AddMark, 3, 0, `<p out"ab i=9+out"c i+out"d code"e out"f i=2+out"g out*br code*br >`},
		{api.RemoveMark, 0, 0, `<p "ab i=9"c i"d code"e out"f i=2+out"g *br code*br >`},
		{api.RemoveMark, 1, 0, `<p "a b"b i=9"c b"d code"e out"f i=2+out"g b*br code*br >`},
		{api.RemoveMark, 1, 2, `<p "a b"b i=9"c b+i"d code"e out"fg b*br code*br >`},
		{api.RemoveMark, 2, 0, `<p "a b"b i=9"c b+i"d "e out"f i=2+out"g b*br *br >`},
		{api.RemoveMark, 3, 0, `<p "a b"b i=9"c b+i"d code"e "f i=2"g b*br code*br >`},
	} {
		m, e := Apply(s, n, api.Step{Kind: x.kind, To: 11, Mark: x.mark, Value: x.value})
		if e != api.OK || line(t, s, m) != x.want {
			t.Error(i, m, e)
		}
	}
}

// P25.2, P25.3: the errors, the first one ahead.
func TestErrors(t *testing.T) {
	s := made(t)
	n := doc(t, s, all)
	full, e := fits.Doc(s, slices.Repeat(parsed(t, s, `*hr`), api.MaxSize))
	if e != api.OK {
		t.Fatal(e)
	}
	row := func(line string) []api.Token { return parsed(t, s, line) }
	b := api.Marks{1}
	for i, x := range []struct {
		s    *schema.Schema
		n    *tree.Node
		x    api.Step
		want api.Errno
	}{
		{nil, n, api.Step{}, api.ErrNil}, {s, nil, api.Step{}, api.ErrNil}, {nil, nil, api.Step{Kind: api.Splice}, api.ErrNil}, {nil, n, api.Step{Kind: api.Splice, To: 99}, api.ErrNil}, {s, nil, api.Step{Kind: api.Splice}, api.ErrNil}, {nil, n, api.Step{Kind: api.AddMark}, api.ErrNil}, {s, nil, api.Step{Kind: api.Remark}, api.ErrNil},
		{s, n, api.Step{}, api.ErrArg}, {s, n, api.Step{Kind: api.Splice, To: 99, Slice: []api.Token{{}}}, api.ErrArg}, {s, n, api.Step{Kind: api.AddMark, To: 99, Mark: 4}, api.ErrArg}, {s, n, api.Step{Kind: api.Remark, From: 98, To: 99, Sets: []api.Marks{{2}}}, api.ErrArg}, {s, n, api.Step{Kind: api.Remark, To: 2, Sets: []api.Marks{b, {2}}}, api.ErrArg},
		{s, n, api.Step{Kind: api.Splice, To: 16}, api.ErrRange}, {s, n, api.Step{Kind: api.Splice, From: 16, To: 16}, api.ErrRange}, {s, n, api.Step{Kind: api.Splice, To: 1 << 30}, api.ErrRange}, {s, n, api.Step{Kind: api.Around, To: 16, GapTo: 15}, api.ErrRange}, {s, n, api.Step{Kind: api.AddMark, To: 16}, api.ErrRange}, {s, n, api.Step{Kind: api.RemoveMark, From: 16, To: 16}, api.ErrRange}, {s, n, api.Step{Kind: api.Remark, From: 14, To: 16, Sets: []api.Marks{b, b}}, api.ErrRange}, {s, full, api.Step{Kind: api.Splice, To: 20001, Slice: closes(20000)}, api.ErrRange},
		{s, n, api.Step{Kind: api.Remark, To: 1, Sets: []api.Marks{b}}, api.ErrMark}, {s, n, api.Step{Kind: api.Remark, From: 4, To: 6, Sets: []api.Marks{{}, b}}, api.ErrMark}, {s, n, api.Step{Kind: api.Remark, From: 10, To: 11, Sets: []api.Marks{b}}, api.ErrMark}, {s, n, api.Step{Kind: api.Remark, From: 7, To: 9, Sets: []api.Marks{{0, 1}, b}}, api.ErrMark}, {s, n, api.Step{Kind: api.Remark, From: 7, To: 8, Sets: []api.Marks{{0, 1}}}, api.ErrMark}, {s, n, api.Step{Kind: api.Remark, From: 7, To: 8, Sets: []api.Marks{b}}, api.OK},
		{s, full, api.Step{Kind: api.Splice, Slice: row(`*hr`)}, api.ErrLong}, {s, full, api.Step{Kind: api.Splice, From: 5, To: 6, Slice: row(`> >`)}, api.ErrLong}, {s, full, api.Step{Kind: api.Splice, From: 5, To: 6, Slice: row(`>`)}, api.ErrOpen}, {s, full, api.Step{Kind: api.Splice, From: 5, To: 6, Slice: row(`"a`)}, api.ErrFit}, {s, full, api.Step{Kind: api.Splice, From: 5, To: 6, Slice: row(`*hr`)}, api.OK}, {s, full, api.Step{Kind: api.Around, To: 20000, GapTo: 20000, Slice: row(`<q >`), Insert: 1}, api.ErrLong}, {s, full, api.Step{Kind: api.Around, To: 20000, GapFrom: 1, GapTo: 20000, Slice: row(`<q >`), Insert: 1}, api.ErrLong}, {s, full, api.Step{Kind: api.Around, To: 20000, GapFrom: 2, GapTo: 20000, Slice: row(`<q >`), Insert: 1}, api.OK}, {s, full, api.Step{Kind: api.Around, To: 20000, GapFrom: 1, GapTo: 19999, Slice: row(`<q >`), Insert: 1}, api.OK}, {s, full, api.Step{Kind: api.AddMark, To: 20000}, api.OK}, {s, full, api.Step{Kind: api.Remark, To: 20000, Sets: sets(20000)}, api.OK},
		{s, n, api.Step{Kind: api.Splice, To: 1}, api.ErrOpen}, {s, n, api.Step{Kind: api.Around, To: 10, GapTo: 9}, api.ErrOpen}, {s, n, api.Step{Kind: api.Around, To: 10, GapTo: 10, Slice: row(`> <p`), Insert: 1}, api.ErrOpen}, {s, n, api.Step{Kind: api.Around, To: 10, GapTo: 10, Slice: row(`<p >`)}, api.OK}, {s, n, api.Step{Kind: api.Around, To: 10, GapTo: 10, Slice: row(`<p >`), Insert: 2}, api.OK},
		{s, n, api.Step{Kind: api.Splice, From: 1, To: 9}, api.ErrFit}, {s, n, api.Step{Kind: api.Around, To: 10, GapTo: 10, Slice: row(`<p >`), Insert: 1}, api.ErrFit}, {s, n, api.Step{Kind: api.Splice, From: 7, To: 7, Slice: row(`i"x`)}, api.ErrMark}, {s, n, api.Step{Kind: api.Around, From: 11, To: 15, GapFrom: 13, GapTo: 14, Slice: row(`<h >`), Insert: 1}, api.ErrMark}, {s, n, api.Step{Kind: api.Around, From: 11, To: 15, GapFrom: 12, GapTo: 14, Slice: row(`<h >`), Insert: 1}, api.ErrFit},
	} {
		m, e := Apply(x.s, x.n, x.x)
		if e != x.want || (m == nil) != (e != api.OK) {
			t.Error(i, m, e, x.want)
		}
		y, f := Invert(x.s, x.n, x.x)
		if f != x.want || f != api.OK && !Same(y, api.Step{}) {
			t.Error(i, y, f, x.want)
		}
	}
}

// P25.2: a depth of 40 may be, one of 41 may not.
func TestDepth(t *testing.T) {
	s := made(t)
	open, shut := api.Token{Kind: api.Open, Type: 2}, api.Token{Kind: api.Close}
	l := slices.Concat(slices.Repeat([]api.Token{open}, 39), []api.Token{{Kind: api.Leaf, Type: 5}}, closes(39))
	n, e := fits.Doc(s, l)
	if e != api.OK {
		t.Fatal(e)
	}
	for _, deep := range []int{0, 20, 39} {
		for more, want := range []api.Errno{api.OK, api.OK, api.ErrOpen} {
			x := api.Step{Kind: api.Around, From: deep, To: 79 - deep, GapFrom: deep, GapTo: 79 - deep, Insert: more, Slice: slices.Concat(slices.Repeat([]api.Token{open}, more), slices.Repeat([]api.Token{shut}, more))}
			if m, e := Apply(s, n, x); e != want || (m == nil) != (e != api.OK) {
				t.Error(deep, more, e)
			}
		}
	}
}

// P25.2: of a tree that isn't right itself Doc's errors are told, of what comes of its tokens; a mark is turned just where it may be.
func TestWrongTrees(t *testing.T) {
	s := made(t)
	top, p, h := api.Token{Kind: api.Open, Type: 1}, api.Token{Kind: api.Open, Type: 3}, api.Token{Kind: api.Open, Type: 4}
	letter := func(r rune, m api.Marks) *tree.Node { return tree.Make(api.Token{Kind: api.Char, Rune: r, Marks: m}) }
	i := api.Marks{0, 5}
	hr := tree.Make(api.Token{Kind: api.Leaf, Type: 5})
	many := func(kid *tree.Node, size int) *tree.Node {
		return tree.Make(top, append(slices.Repeat([]*tree.Node{hr}, size-kid.Size()), kid)...)
	}
	odd := tree.Make(p, letter(-1, api.Marks{}), letter('a', api.Marks{}))
	for k, x := range []struct {
		n    *tree.Node
		x    api.Step
		want api.Errno
	}{
		{tree.Make(top, tree.Make(h, letter('a', i))), api.Step{Kind: api.RemoveMark, To: 3, Mark: 1, Value: 4}, api.ErrMark}, {tree.Make(top, tree.Make(h, letter('a', i))), api.Step{Kind: api.Remark, From: 1, To: 2, Sets: sets(1)}, api.OK}, {tree.Make(top, tree.Make(h, letter('a', i))), api.Step{Kind: api.Around, To: 3, GapFrom: 1, GapTo: 2, Insert: 1, Slice: []api.Token{p, {Kind: api.Close}}}, api.OK}, {tree.Make(top, tree.Make(h, letter('a', i))), api.Step{Kind: api.Splice, To: 3}, api.OK},
		{tree.Make(top, letter('a', i)), api.Step{Kind: api.RemoveMark, To: 1, Mark: 1, Value: 4}, api.ErrFit}, {tree.Make(top, letter('a', i)), api.Step{Kind: api.Splice, To: 1}, api.OK}, {tree.Make(top, tree.Make(api.Token{Kind: api.Leaf, Type: 5, Marks: i})), api.Step{Kind: api.AddMark, To: 1}, api.ErrArg}, {tree.Make(top, tree.Make(api.Token{Kind: api.Leaf, Type: 5, Marks: i})), api.Step{Kind: api.Remark, To: 1, Sets: sets(1)}, api.ErrArg}, {tree.Make(top, tree.Make(api.Token{Kind: api.Leaf, Type: 5, Marks: i})), api.Step{Kind: api.Splice, To: 1}, api.OK},
		{tree.Make(top, odd), api.Step{Kind: api.AddMark, To: 4}, api.ErrArg}, {tree.Make(top, odd), api.Step{Kind: api.AddMark, From: 2, To: 4}, api.ErrArg}, {tree.Make(top, odd), api.Step{Kind: api.Splice, From: 1, To: 2}, api.OK}, {tree.Make(top, odd), api.Step{Kind: api.Splice, From: 1, To: 3}, api.OK}, {tree.Make(top, odd), api.Step{Kind: api.Splice, From: 2, To: 3}, api.ErrArg},
		{many(hr, 20000), api.Step{Kind: api.AddMark, To: 9}, api.OK}, {many(hr, 20001), api.Step{Kind: api.AddMark, To: 9}, api.ErrLong}, {many(hr, 20001), api.Step{Kind: api.RemoveMark}, api.ErrLong}, {many(hr, 20001), api.Step{Kind: api.Splice}, api.ErrLong}, {many(hr, 20001), api.Step{Kind: api.Splice, To: 1}, api.OK},
		{many(odd, 20001), api.Step{Kind: api.AddMark, From: 19990, To: 20001}, api.ErrLong}, {many(odd, 20000), api.Step{Kind: api.AddMark, From: 19990, To: 20000}, api.ErrArg}, {many(odd, 20001), api.Step{Kind: api.Remark, From: 19999, To: 20000, Sets: []api.Marks{i}}, api.ErrLong}, {many(hr, 20001), api.Step{Kind: api.Remark, To: 1, Sets: []api.Marks{i}}, api.ErrMark}, {many(hr, 20001), api.Step{Kind: api.Remark, To: 1, Sets: sets(1)}, api.ErrLong},
	} {
		m, e := Apply(s, x.n, x.x)
		y, f := Invert(s, x.n, x.x)
		if e != x.want || (m == nil) != (e != api.OK) || f != e || f != api.OK && !Same(y, api.Step{}) {
			t.Error(k, m, e, y, f)
		}
	}
	// Marks that were there, but not of a token that isn't inline.
	n := tree.Make(top, tree.Make(api.Token{Kind: api.Leaf, Type: 5, Marks: i}), tree.Make(p, letter('a', i)))
	if y := (marking{api.Step{To: 4}}).inverse(s, n); !Same(y, api.Step{Kind: api.Remark, To: 4, Sets: []api.Marks{{}, {}, i, {}}}) {
		t.Error(y)
	}
}

// P1, P25.2: of deep and great nodes only what is between is looked at.
func TestGreatNodes(t *testing.T) {
	s := made(t)
	hr := tree.Make(api.Token{Kind: api.Leaf, Type: 5})
	top, q := api.Token{Kind: api.Open, Type: 1}, api.Token{Kind: api.Open, Type: 2}
	deep, many := hr, hr
	for range 1 << 15 {
		deep = tree.Make(q, deep)
	}
	for range 50 {
		many = tree.Make(q, many, many)
	}
	for _, n := range []*tree.Node{tree.Make(top, deep), tree.Make(top, many)} {
		for i, x := range []struct {
			x    api.Step
			want api.Errno
		}{
			{api.Step{Kind: api.Splice}, api.ErrLong}, {api.Step{Kind: api.Splice, To: 40}, api.ErrLong}, {api.Step{Kind: api.Around, To: 60000, GapTo: 60000}, api.ErrLong}, {api.Step{Kind: api.AddMark, To: 60000}, api.ErrLong}, {api.Step{Kind: api.RemoveMark, From: 60000, To: 60000}, api.ErrLong},
			{api.Step{Kind: api.Remark, From: 30000, To: 50000, Sets: sets(20000)}, api.ErrLong}, {api.Step{Kind: api.Remark, From: 30000, To: 30001, Sets: []api.Marks{{1}}}, api.ErrMark},
		} {
			if m, e := Apply(s, n, x.x); m != nil || e != x.want {
				t.Error(i, m, e)
			}
		}
	}
}

// P3, P6: what is handed in stays, spare room too, and isn't kept; what is answered is new, and the same each time; nodes that nothing touched are shared.
func TestStays(t *testing.T) {
	s := made(t)
	n := doc(t, s, `<p "ab > <q *hr > <p b"c > <p "d >`)
	l := []api.Step{
		{Kind: api.Splice, From: 2, To: 3, Slice: parsed(t, s, `"x > <p "y`)},
		{Kind: api.Around, From: 10, To: 13, GapFrom: 11, GapTo: 12, Insert: 1, Slice: parsed(t, s, `<h > *hr`)},
		{Kind: api.AddMark, From: 0, To: 13, Mark: 1, Value: 4},
		{Kind: api.RemoveMark, From: 0, To: 13},
		{Kind: api.Remark, From: 7, To: 9, Sets: []api.Marks{{}, {0, 3}}},
	}
	wants := []string{`<p "ax > <p "y > <q *hr > <p b"c > <p "d >`, `<p "ab > <q *hr > <p b"c > <h "d > *hr`, `<p i=4"ab > <q *hr > <p b+i=4"c > <p i=4"d >`, `<p "ab > <q *hr > <p "c > <p "d >`, `<p "ab > <q *hr > <p i=2"c > <p "d >`}
	for i, x := range l {
		x.Slice, x.Sets = slices.Grow(x.Slice, 4), slices.Grow(x.Sets, 4)
		room, more := append(x.Slice, api.Token{Kind: 8}, api.Token{Kind: 9}), append(x.Sets, api.Marks{7}, api.Marks{8})
		was, wasMore := slices.Clone(room), slices.Clone(more)
		for range 2 {
			m, e := Apply(s, n, x)
			y, f := Invert(s, n, x)
			if e != api.OK || f != api.OK || !Right(s, x) || !Same(x, x) || !slices.Equal(room, was) || !slices.Equal(more, wasMore) {
				t.Fatal(i, e, f, room, more)
			}
			clear(x.Slice)
			clear(x.Sets)
			clear(Map(l[i]))
			back, g := Apply(s, m, y)
			if g != api.OK || line(t, s, m) != wants[i] || !tree.Same(back, n) {
				t.Fatal(i, g, line(t, s, m))
			}
			if m.Kid(m.Kids()-1) != n.Kid(3) && i != 1 && i != 2 || m.Kid(0) != n.Kid(0) && i != 0 && i != 2 {
				t.Error(i, "what stands aside isn't shared")
			}
			copy(x.Slice, was)
			copy(x.Sets, wasMore)
			_ = append(y.Slice, api.Token{Kind: 7})
			clear(y.Slice)
			clear(y.Sets)
			clear(m.Tokens())
		}
		if line(t, s, n) != `<p "ab > <q *hr > <p b"c > <p "d >` {
			t.Fatal(line(t, s, n))
		}
	}
}
