package tx

import (
	"slices"
	"testing"

	"stet/api"
	"stet/fits"
	"stet/route"
	"stet/schema"
	"stet/step"
	"stet/token"
	"stet/tree"
)

// made is the schema that the tests know: doc is 1, q 2, p 3, h 4, hr 5, br 6; b is the mark 0, i 1, code 2.
func made(t testing.TB) *schema.Schema {
	t.Helper()
	s, e := schema.New("mark b\nmark i val=9\nmark code bars=*\nnode doc : (q|p|h|hr)+\nnode q attr=9 : (q|p|h|hr)+\nnode p marks=* : (text|br)*\nnode h marks=b : text*\nnode hr\nnode br inline\n")
	if e != api.OK {
		t.Fatal(e)
	}
	return s
}

// parsed are a line's tokens.
func parsed(t testing.TB, s *schema.Schema, line string) []api.Token {
	t.Helper()
	l, at, e := token.Parse(s, line)
	if e != api.OK {
		t.Fatal(line, at, e)
	}
	return l
}

// doc is a line's document.
func doc(t testing.TB, s *schema.Schema, line string) *tree.Node {
	t.Helper()
	n, e := fits.Doc(s, parsed(t, s, line))
	if e != api.OK {
		t.Fatal(line, e)
	}
	return n
}

// line is a document's line.
func line(t testing.TB, s *schema.Schema, n *tree.Node) string {
	t.Helper()
	w, ok := token.Show(s, n.Tokens())
	if !ok {
		t.Fatal(n)
	}
	return w
}

// begun is a transaction of a line's document.
func begun(t testing.TB, s *schema.Schema, l string) *Tx {
	t.Helper()
	x, e := New(s, doc(t, s, l))
	if e != api.OK {
		t.Fatal(l, e)
	}
	return x
}

// put is a splice of a line's tokens.
func put(t testing.TB, s *schema.Schema, from, to int, line string) api.Step {
	t.Helper()
	return api.Step{Kind: api.Splice, From: from, To: to, Slice: parsed(t, s, line)}
}

// around is an around of a line's tokens, the first one of which stands ahead.
func around(t testing.TB, s *schema.Schema, from, gapFrom, gapTo, to int, line string) api.Step {
	t.Helper()
	l := parsed(t, s, line)
	return api.Step{Kind: api.Around, From: from, To: to, GapFrom: gapFrom, GapTo: gapTo, Insert: len(l) / 2, Slice: l}
}

// bold adds, or removes, the mark b.
func bold(kind, from, to int) api.Step { return api.Step{Kind: kind, From: from, To: to} }

// holds holds what a transaction tells against the steps that it was asked to do, and its documents against lines.
func holds(t *testing.T, s *schema.Schema, x *Tx, begin, now string, steps ...api.Step) {
	t.Helper()
	if line(t, s, x.Begin()) != begin || line(t, s, x.Doc()) != now || x.Len() != len(steps) || !slices.EqualFunc(x.Steps(), steps, step.Same) {
		t.Fatalf("%q, %q, %d, %+v", line(t, s, x.Begin()), line(t, s, x.Doc()), x.Len(), x.Steps())
	}
	r := x.Route()
	if r.Len() != len(steps) || len(x.Undo()) != len(steps) {
		t.Fatal(r.Len(), x.Undo())
	}
	back := x.Doc()
	for i, one := range steps {
		if _, mirrored := r.Of(i); mirrored || !slices.Equal(r.At(i), step.Map(one)) {
			t.Fatal(i, r.At(i))
		}
	}
	for i, one := range x.Undo() {
		m, e := step.Apply(s, back, one)
		if e != api.OK {
			t.Fatalf("%d, %+v: %v", i, one, e)
		}
		back = m
	}
	if !tree.Same(back, x.Begin()) {
		t.Fatalf("undone: %q", line(t, s, back))
	}
}

// P28.1: a transaction of a document that is right, which is it.
func TestNew(t *testing.T) {
	s := made(t)
	n := doc(t, s, `<q=3 <p "ab b"c > > *hr`)
	x, e := New(s, n)
	if e != api.OK || x.Begin() != n || x.Doc() != n || x.Len() != 0 || x.Steps() != nil || x.Undo() != nil || x.Changes() != nil || x.Route().Len() != 0 {
		t.Fatal(x, e)
	}
	// A document may be made of nodes, and a node of the top's type may stand in another one.
	nest, e := schema.New("node doc : doc*\n")
	if e != api.OK {
		t.Fatal(e)
	}
	open := api.Token{Kind: api.Open, Type: 1}
	deep := tree.Make(open, tree.Make(open, tree.Make(open)))
	for i, n := range []*tree.Node{deep, deep.Kid(0), deep.Kid(0).Kid(0), doc(t, nest, ``)} {
		if x, e := New(nest, n); e != api.OK || x.Begin() != n || x.Doc() != n {
			t.Error(i, e)
		}
	}
}

// P28.1: of what there is no transaction.
func TestNewErrors(t *testing.T) {
	s := made(t)
	n := doc(t, s, `<q=3 <p "ab b"c > > *hr`)
	top, q, p := api.Token{Kind: api.Open, Type: 1}, api.Token{Kind: api.Open, Type: 2}, api.Token{Kind: api.Open, Type: 3}
	hr := tree.Make(api.Token{Kind: api.Leaf, Type: 5})
	letter := func(r rune, set api.Marks) *tree.Node {
		return tree.Make(api.Token{Kind: api.Char, Rune: r, Marks: set})
	}
	empty, e := tree.Build(s, nil)
	if e != api.OK {
		t.Fatal(e)
	}
	nested := func(deep int) *tree.Node {
		n := hr
		for range deep {
			n = tree.Make(q, n)
		}
		return tree.Make(top, n)
	}
	great := hr
	for range 50 {
		great = tree.Make(q, great, great)
	}
	optional, e := schema.New("node doc : p*\nnode p\n")
	if e != api.OK {
		t.Fatal(e)
	}
	for i, x := range []struct {
		s    *schema.Schema
		n    *tree.Node
		want api.Errno
	}{
		{nil, nil, api.ErrNil}, {s, nil, api.ErrNil}, {nil, n, api.ErrNil}, {nil, hr, api.ErrNil}, {nil, empty, api.ErrNil}, {nil, &tree.Node{}, api.ErrNil},
		// No top nodes.
		{s, hr, api.ErrArg}, {s, n.Kid(0), api.ErrArg}, {s, n.Kid(0).Kid(0), api.ErrArg}, {s, n.Kid(0).Kid(0).Kid(0), api.ErrArg}, {s, &tree.Node{}, api.ErrArg}, {s, tree.Make(api.Token{Kind: api.Leaf, Type: 1}), api.ErrArg}, {s, tree.Make(api.Token{Kind: api.Char, Type: 1, Rune: 'a'}), api.ErrArg}, {s, tree.Make(api.Token{Kind: api.Open}, hr), api.ErrArg}, {s, tree.Make(api.Token{Kind: api.Open, Type: 7}, hr), api.ErrArg}, {s, tree.Make(api.Token{Kind: api.Open, Type: -1}, hr), api.ErrArg}, {s, tree.Make(api.Token{Kind: api.Open, Type: 1<<32 + 1}, hr), api.ErrArg},
		{optional, tree.Make(api.Token{Kind: api.Leaf, Type: 1}), api.ErrArg}, {optional, tree.Make(top), api.OK}, {optional, tree.Make(p), api.ErrArg}, {optional, n, api.ErrArg},
		// Not right: what stands in a node, marks, tokens, too many or too deep ones.
		{s, empty, api.ErrArg}, {s, tree.Make(top), api.ErrArg}, {s, tree.Make(top, letter('a', api.Marks{})), api.ErrArg}, {s, tree.Make(top, hr, tree.Make(q)), api.ErrArg}, {s, tree.Make(top, tree.Make(q, tree.Make(q, tree.Make(p, hr)))), api.ErrArg},
		{s, tree.Make(top, tree.Make(api.Token{Kind: api.Open, Type: 4}, letter('a', api.Marks{0, 1}))), api.ErrArg}, {s, tree.Make(top, tree.Make(api.Token{Kind: api.Open, Type: 4}, letter('a', api.Marks{1}))), api.OK},
		{s, tree.Make(top, tree.Make(p, letter('a', api.Marks{1, 0, 1}))), api.ErrArg}, {s, tree.Make(top, tree.Make(p, letter('a', api.Marks{0, 11}))), api.ErrArg}, {s, tree.Make(top, tree.Make(p, letter(-1, api.Marks{}))), api.ErrArg}, {s, tree.Make(top, tree.Make(p, letter(0xd800, api.Marks{}))), api.ErrArg}, {s, tree.Make(top, tree.Make(api.Token{Kind: api.Open, Type: 3, Attr: 1})), api.ErrArg}, {s, tree.Make(top, tree.Make(api.Token{Kind: api.Open, Type: 2, Attr: 10}, hr)), api.ErrArg}, {s, tree.Make(top, tree.Make(api.Token{Kind: api.Open, Type: 2, Attr: 9}, hr)), api.OK}, {s, tree.Make(top, tree.Make(api.Token{Kind: api.Leaf, Type: 5, Marks: api.Marks{1}})), api.ErrArg}, {s, tree.Make(top, tree.Make(api.Token{Kind: api.Leaf, Type: 3})), api.ErrArg},
		{s, nested(40), api.OK}, {s, nested(41), api.ErrArg}, {s, nested(1 << 15), api.ErrArg}, {s, tree.Make(top, great), api.ErrArg},
		{s, tree.Make(top, slices.Repeat([]*tree.Node{hr}, 20000)...), api.OK}, {s, tree.Make(top, slices.Repeat([]*tree.Node{hr}, 20001)...), api.ErrArg},
	} {
		y, e := New(x.s, x.n)
		if e != x.want || (y == nil) != (e != api.OK) {
			t.Error(i, y, e)
		}
	}
}

// P28.1, P28.2: steps of each kind, done one by one, and what is told of them.
func TestDo(t *testing.T) {
	s := made(t)
	const begin = `<p "abc > *hr`
	x := begun(t, s, begin)
	holds(t, s, x, begin, begin)
	var l []api.Step
	for _, one := range []struct {
		x    api.Step
		want string
	}{
		{put(t, s, 2, 3, `"xy`), `<p "axyc > *hr`},
		{around(t, s, 0, 0, 6, 6, `<q=4 >`), `<q=4 <p "axyc > > *hr`},
		{bold(api.AddMark, 2, 4), `<q=4 <p b"ax "yc > > *hr`},
		{bold(api.RemoveMark, 3, 9), `<q=4 <p b"a "xyc > > *hr`},
		{api.Step{Kind: api.Remark, From: 3, To: 5, Sets: []api.Marks{{0, 0, 1}, {1, 4}}}, `<q=4 <p b"a code"x b+i=3"y "c > > *hr`},
		// Steps that turn nothing are steps, too.
		{put(t, s, 4, 4, ``), `<q=4 <p b"a code"x b+i=3"y "c > > *hr`},
		{bold(api.RemoveMark, 0, 0), `<q=4 <p b"a code"x b+i=3"y "c > > *hr`},
		{around(t, s, 1, 2, 6, 7, `<h >`), ``},
		{put(t, s, 4, 4, `> <p`), `<q=4 <p b"a code"x > <p b+i=3"y "c > > *hr`},
		{around(t, s, 0, 1, 9, 10, ``), `<p b"a code"x > <p b+i=3"y "c > *hr`},
		{put(t, s, 0, 9, `*hr`), `*hr`},
	} {
		e := x.Do(one.x)
		if (e == api.OK) != (one.want != ``) {
			t.Fatalf("%+v: %v", one.x, e)
		}
		now := line(t, s, x.Doc())
		if e == api.OK {
			l = append(l, one.x)
			if now != one.want {
				t.Fatalf("%+v: %q", one.x, now)
			}
		}
		holds(t, s, x, begin, now, l...)
	}
}

// P28.1: what can't be done is refused by step's errors, and turns nothing.
func TestDoErrors(t *testing.T) {
	s := made(t)
	const all = `<q <p "ab > > <h "d > *hr`
	x := begun(t, s, all)
	was := []api.Step{put(t, s, 3, 3, `"x`), put(t, s, 3, 4, ``)}
	if n, e := x.All(was...); n != 2 || e != api.OK {
		t.Fatal(n, e)
	}
	for i, one := range []struct {
		x    api.Step
		want api.Errno
	}{
		{api.Step{}, api.ErrArg}, {api.Step{Kind: 6}, api.ErrArg}, {put(t, s, 3, 2, ``), api.ErrArg}, {put(t, s, -1, 2, ``), api.ErrArg}, {api.Step{Kind: api.Splice, Slice: make([]api.Token, 1)}, api.ErrArg}, {api.Step{Kind: api.AddMark, To: 3, Mark: 3}, api.ErrArg}, {api.Step{Kind: api.RemoveMark, To: 3, Mark: 1, Value: 10}, api.ErrArg}, {api.Step{Kind: api.Remark, From: 20, To: 21, Sets: []api.Marks{{1, 0, 1}}}, api.ErrArg}, {api.Step{Kind: api.Splice, To: 1<<30 + 1}, api.ErrArg},
		{put(t, s, 10, 11, ``), api.ErrRange}, {put(t, s, 11, 11, `>`), api.ErrRange}, {bold(api.AddMark, 0, 11), api.ErrRange}, {bold(api.RemoveMark, 1<<30, 1<<30), api.ErrRange},
		{api.Step{Kind: api.Remark, To: 1, Sets: []api.Marks{{1}}}, api.ErrMark}, {api.Step{Kind: api.Remark, From: 7, To: 8, Sets: []api.Marks{{0, 1}}}, api.ErrMark}, {put(t, s, 7, 7, `i"x`), api.ErrMark},
		{put(t, s, 3, 3, `>`), api.ErrOpen}, {put(t, s, 0, 1, ``), api.ErrOpen}, {put(t, s, 1, 5, ``), api.ErrFit}, {put(t, s, 0, 10, ``), api.ErrFit}, {put(t, s, 0, 0, `"x`), api.ErrFit},
		{api.Step{Kind: api.Splice, From: 9, To: 10, Slice: slices.Repeat([]api.Token{{Kind: api.Leaf, Type: 5}}, 19992)}, api.ErrLong},
	} {
		if e := x.Do(one.x); e != one.want {
			t.Errorf("%d: %.200v: %v, not %v", i, one.x, e, one.want)
		}
		if n, e := x.All(was[0], was[1], one.x, was[0]); n != 2 || e != one.want {
			t.Errorf("%d: %.200v: %d, %v, not %v", i, one.x, n, e, one.want)
		}
		holds(t, s, x, all, all, was...)
	}
}

// P28.1: all are done, or none: the first one that can't be is told by its place.
func TestAll(t *testing.T) {
	s := made(t)
	const begin = `<p "ab >`
	x := begun(t, s, begin)
	type told struct {
		steps []api.Step
		n     int
		e     api.Errno
		want  string
	}
	var l []api.Step
	for i, one := range []told{
		{nil, 0, api.OK, begin},
		{[]api.Step{put(t, s, 1, 2, ``)}, 1, api.OK, `<p "b >`},
		{[]api.Step{put(t, s, 2, 2, `"x`), put(t, s, 3, 3, `"y`), put(t, s, 4, 4, `> <p`)}, 3, api.OK, `<p "bxy > <p >`},
		// Each one is asked of the document behind the one ahead.
		{[]api.Step{put(t, s, 5, 7, ``), put(t, s, 6, 6, ``)}, 1, api.ErrRange, `<p "bxy > <p >`},
		{[]api.Step{put(t, s, 7, 7, `*hr`), put(t, s, 8, 8, `*hr`), put(t, s, 0, 5, ``), put(t, s, 0, 4, ``)}, 3, api.ErrFit, `<p "bxy > <p >`},
		{[]api.Step{put(t, s, 7, 7, `*hr`), put(t, s, 8, 8, `*hr`), put(t, s, 0, 5, ``), put(t, s, 2, 4, ``)}, 4, api.OK, `<p >`},
		{[]api.Step{{}}, 0, api.ErrArg, ``}, {[]api.Step{put(t, s, 0, 0, `*hr`), {}, put(t, s, 9, 9, ``)}, 1, api.ErrArg, ``}, {[]api.Step{put(t, s, 0, 0, `*hr`), put(t, s, 9, 9, ``), {}}, 1, api.ErrRange, ``},
		{[]api.Step{put(t, s, 0, 0, `<p >`), put(t, s, 1, 1, `"z`)}, 2, api.OK, `<p "z > <p >`},
	} {
		was := line(t, s, x.Doc())
		n, e := x.All(one.steps...)
		if e == api.OK {
			l = append(l, one.steps...)
			was = line(t, s, x.Doc())
		}
		if n != one.n || e != one.e || one.want != `` && was != one.want {
			t.Errorf("%d: %d, %v, %q", i, n, e, was)
		}
		holds(t, s, x, begin, was, l...)
	}
}

// P28.1: there are at most 1000 steps, whatever the next one is.
func TestFull(t *testing.T) {
	s := made(t)
	const begin = `<p >`
	x := begun(t, s, begin)
	letter := put(t, s, 1, 1, `"a`)
	l := slices.Repeat([]api.Step{letter}, 1000)
	if n, e := x.All(append(l, letter)...); n != 1000 || e != api.ErrLong {
		t.Fatal(n, e)
	}
	holds(t, s, x, begin, begin)
	if n, e := x.All(append(l, api.Step{})...); n != 1000 || e != api.ErrLong {
		t.Fatal(n, e)
	}
	wrong := slices.Clone(l)
	wrong[999] = api.Step{}
	if n, e := x.All(append(wrong, letter)...); n != 999 || e != api.ErrArg {
		t.Fatal(n, e)
	}
	if n, e := x.All(l[:998]...); n != 998 || e != api.OK {
		t.Fatal(n, e)
	}
	if n, e := x.All(letter, letter, letter); n != 2 || e != api.ErrLong || x.Len() != 998 {
		t.Fatal(n, e, x.Len())
	}
	if e := x.Do(letter); e != api.OK {
		t.Fatal(e)
	}
	if n, e := x.All(letter); n != 1 || e != api.OK || x.Len() != 1000 {
		t.Fatal(n, e, x.Len())
	}
	now := x.Doc()
	for _, one := range []api.Step{letter, {}, put(t, s, 0, 1, ``), put(t, s, 0, 0, ``), {Kind: -1, From: -1}} {
		if e := x.Do(one); e != api.ErrLong {
			t.Error(one, e)
		}
		if n, e := x.All(one); n != 0 || e != api.ErrLong {
			t.Error(one, n, e)
		}
	}
	if n, e := x.All(); n != 0 || e != api.OK || x.Len() != 1000 || x.Doc() != now || now.Size() != 1004 {
		t.Error(n, e, x.Len(), now.Size())
	}
	changes := x.Changes()
	if len(changes) != 1000 || changes[0] != [2]int{1, 1001} || changes[999] != [2]int{1, 2} || x.Route().Len() != 1000 {
		t.Error(len(changes), changes[0], changes[999])
	}
	holds(t, s, x, begin, line(t, s, now), l...)
}

// P28.2: where steps have changed something, in the document behind all.
func TestChanges(t *testing.T) {
	s := made(t)
	for i, x := range []struct {
		begin string
		steps []api.Step
		want  [][2]int
	}{
		{`<p >`, nil, nil},
		// The example.
		{`<p >`, []api.Step{put(t, s, 1, 1, `"a`), put(t, s, 2, 2, `"b`)}, [][2]int{{1, 3}, {2, 3}}},
		{`<p "abc >`, []api.Step{put(t, s, 2, 3, ``)}, [][2]int{{2, 2}}}, {`<p "abc >`, []api.Step{put(t, s, 2, 3, ``), put(t, s, 2, 2, `"x`)}, [][2]int{{2, 3}, {2, 3}}}, {`<p "abc >`, []api.Step{put(t, s, 2, 3, `"xyz`), put(t, s, 3, 4, ``)}, [][2]int{{2, 4}, {3, 3}}}, {`<p "abc >`, []api.Step{put(t, s, 2, 3, `"xyz`), put(t, s, 1, 6, ``)}, [][2]int{{1, 1}, {1, 1}}}, {`<p "abc >`, []api.Step{put(t, s, 2, 3, `"xyz`), put(t, s, 1, 6, `"vw`)}, [][2]int{{1, 3}, {1, 3}}}, {`<p "abc >`, []api.Step{put(t, s, 2, 3, `"xyz`), put(t, s, 1, 3, `"vw`)}, [][2]int{{1, 5}, {1, 3}}}, {`<p "abc >`, []api.Step{put(t, s, 2, 3, `"xyz`), put(t, s, 4, 6, `"vw`)}, [][2]int{{2, 6}, {4, 6}}},
		// What is put in at the one end or the other is taken in.
		{`<p "abc >`, []api.Step{put(t, s, 2, 2, `"xy`), put(t, s, 2, 2, `"z`)}, [][2]int{{2, 5}, {2, 3}}}, {`<p "abc >`, []api.Step{put(t, s, 2, 2, `"xy`), put(t, s, 4, 4, `"z`)}, [][2]int{{2, 5}, {4, 5}}}, {`<p "abc >`, []api.Step{put(t, s, 2, 2, `"xy`), put(t, s, 1, 1, `"z`)}, [][2]int{{3, 5}, {1, 2}}}, {`<p "abc >`, []api.Step{put(t, s, 2, 2, `"xy`), put(t, s, 5, 5, `"z`)}, [][2]int{{2, 4}, {5, 6}}}, {`<p "abc >`, []api.Step{put(t, s, 2, 2, ``), put(t, s, 2, 2, `"z`)}, [][2]int{{2, 3}, {2, 3}}},
		// Each range of an around by itself, the second one behind the first one's shift.
		{`<p "ab >`, []api.Step{around(t, s, 0, 0, 4, 4, `<q >`)}, [][2]int{{0, 1}, {5, 6}}}, {`<p "ab >`, []api.Step{around(t, s, 0, 0, 4, 4, `<q <q > >`), put(t, s, 3, 3, `"x`)}, [][2]int{{0, 2}, {7, 9}, {3, 4}}}, {`<q <q <p "ab > > >`, []api.Step{around(t, s, 0, 2, 6, 8, ``), bold(api.AddMark, 1, 2)}, [][2]int{{0, 0}, {4, 4}, {1, 2}}}, {`<p > <p >`, []api.Step{around(t, s, 2, 2, 2, 2, `*hr *hr`)}, [][2]int{{2, 4}}}, {`<q <p "ab > >`, []api.Step{around(t, s, 0, 1, 5, 6, ``), around(t, s, 0, 0, 4, 4, `<q >`), around(t, s, 1, 1, 5, 5, `<q >`)}, [][2]int{{0, 2}, {6, 8}, {0, 2}, {6, 8}, {1, 2}, {6, 7}}},
		// Of marks From and To.
		{`<p "abc >`, []api.Step{bold(api.AddMark, 1, 3)}, [][2]int{{1, 3}}}, {`<p "abc >`, []api.Step{bold(api.AddMark, 0, 5), bold(api.RemoveMark, 3, 3), {Kind: api.Remark, From: 2, To: 3, Sets: make([]api.Marks, 1)}, {Kind: api.Remark, From: 5, To: 5}}, [][2]int{{0, 5}, {3, 3}, {2, 3}, {5, 5}}}, {`<p "abc >`, []api.Step{bold(api.AddMark, 1, 3), put(t, s, 3, 3, `"x`), put(t, s, 1, 1, `"y`), put(t, s, 0, 0, `*hr`)}, [][2]int{{2, 6}, {5, 6}, {2, 3}, {0, 1}}}, {`<p "abc >`, []api.Step{bold(api.AddMark, 1, 3), put(t, s, 1, 4, ``)}, [][2]int{{1, 1}, {1, 1}}},
	} {
		y := begun(t, s, x.begin)
		if n, e := y.All(x.steps...); n != len(x.steps) || e != api.OK {
			t.Fatal(i, n, e)
		}
		if got := y.Changes(); !slices.Equal(got, x.want) {
			t.Errorf("%d: %v, not %v", i, got, x.want)
		}
	}
}

// P28.1, P28.2: of nil.
func TestNil(t *testing.T) {
	var x *Tx
	if e := x.Do(api.Step{Kind: api.Splice}); e != api.ErrNil {
		t.Error(e)
	}
	for _, l := range [][]api.Step{nil, {{}}, {{Kind: api.Splice}, {}}} {
		if n, e := x.All(l...); n != 0 || e != api.ErrNil {
			t.Error(n, e)
		}
	}
	if x.Doc() != nil || x.Begin() != nil || x.Len() != 0 || x.Steps() != nil || x.Undo() != nil || x.Route() != nil || x.Changes() != nil {
		t.Error("nil tells something")
	}
	// Of a zero value nothing is said but that it ends.
	var zero Tx
	zero.Do(api.Step{Kind: api.Splice})
	zero.All(api.Step{Kind: api.Splice}, api.Step{})
	if zero.Doc() != nil || zero.Begin() != nil || zero.Len() != 0 || zero.Steps() != nil || zero.Undo() != nil || zero.Route().Len() != 0 || zero.Changes() != nil {
		t.Error("a zero value has done something")
	}
}

// P3, P6: what is handed in stays, spare room too, and isn't kept; what is answered is new, each time.
func TestStays(t *testing.T) {
	s := made(t)
	const begin, end = `<p "abc > *hr`, `<p b"xac > *hr`
	n := doc(t, s, begin)
	x, e := New(s, n)
	if e != api.OK {
		t.Fatal(e)
	}
	want := func() []api.Step {
		return []api.Step{put(t, s, 1, 1, `"x`), put(t, s, 3, 4, ``), {Kind: api.Remark, From: 1, To: 4, Sets: []api.Marks{{1}, {1}, {1}}}}
	}
	l := append(want(), api.Step{Kind: 77})
	room := append(slices.Grow(l[0].Slice, 3), api.Token{Kind: 7})
	l[0].Slice = room[:1]
	if at, e := x.All(l[:3]...); at != 3 || e != api.OK || len(room) != 2 || room[1].Kind != 7 || l[3].Kind != 77 || !slices.EqualFunc(l[:3], want(), step.Same) {
		t.Fatal(at, e, room, l)
	}
	clear(room)
	clear(l[2].Sets)
	clear(l)
	for range 3 {
		holds(t, s, x, begin, end, want()...)
		for _, steps := range [][]api.Step{x.Steps(), x.Undo()} {
			for _, one := range steps {
				_, _ = append(one.Slice, api.Token{Kind: 9}), append(one.Sets, api.Marks{9})
				clear(one.Slice)
				clear(one.Sets)
			}
			_ = append(steps, api.Step{Kind: 9})
			clear(steps)
		}
		changes := x.Changes()
		_ = append(changes, [2]int{9, 9})
		clear(changes)
		r := x.Route()
		clear(r.At(0))
		if e := r.Mirror([]api.Range{{At: 1, Old: 1}}, 0); e != api.OK {
			t.Fatal(e)
		}
		clear(x.Doc().Tokens())
	}
	if line(t, s, n) != begin || x.Begin() != n || !slices.Equal(x.Changes(), [][2]int{{1, 2}, {3, 3}, {1, 4}}) {
		t.Error(line(t, s, n), x.Changes())
	}
	// What was told ahead of a step stays as it was, whether or not that is done.
	steps, undo, r := x.Steps(), x.Undo(), x.Route()
	x.All(put(t, s, 1, 1, `"p`), put(t, s, 1, 1, `"q`), api.Step{})
	x.Do(put(t, s, 1, 1, `"r`))
	if !slices.EqualFunc(steps, want(), step.Same) || len(undo) != 3 || undo[2].To != 2 || r.Len() != 3 || x.Len() != 4 {
		t.Error(steps, undo, r.Len(), x.Len())
	}
	holds(t, s, x, begin, `<p "r b"xac > *hr`, append(want(), put(t, s, 1, 1, `"r`))...)
}

// P4: two transactions of one document are each by itself.
func TestTwo(t *testing.T) {
	s := made(t)
	n := doc(t, s, `<p "ab >`)
	x, e := New(s, n)
	y, f := New(s, n)
	if e != api.OK || f != api.OK {
		t.Fatal(e, f)
	}
	a, b := put(t, s, 1, 2, ``), put(t, s, 3, 3, `"c`)
	if x.Do(a) != api.OK || y.Do(b) != api.OK || x.Do(a) != api.OK {
		t.Fatal(x, y)
	}
	holds(t, s, x, `<p "ab >`, `<p >`, a, a)
	holds(t, s, y, `<p "ab >`, `<p "abc >`, b)
}

// P28.2: the route leads positions through all steps, without mirrors, even back.
func TestRoute(t *testing.T) {
	s := made(t)
	x := begun(t, s, `<p "abcd >`)
	if _, e := x.All(put(t, s, 2, 4, ``), put(t, s, 2, 2, `"bc`)); e != api.OK {
		t.Fatal(e)
	}
	var want route.Route
	want.Add([]api.Range{{At: 2, Old: 2}})
	want.Add([]api.Range{{At: 2, New: 2}})
	for at := range 7 {
		for _, side := range []int{-1, 1} {
			p, e := x.Route().Tell(at, side)
			q, f := want.Tell(at, side)
			if p != q || e != f || at == 3 && (p.Position == 3 || !p.Gone || !p.Inside) {
				t.Error(at, side, p, e)
			}
		}
	}
}
