package moves

import (
	"slices"
	"strings"
	"testing"

	"stet/api"
	"stet/fits"
	"stet/schema"
	"stet/step"
	"stet/token"
	"stet/tree"
)

const (
	least = -1 << 63
	great = 1<<63 - 1
)

// made is the schema that the tests know: doc is 1, q 2, p 3, h 4, hr 5, br 6, t 7, fig 8; b is the mark 0, i 1, code 2.
func made(t testing.TB) *schema.Schema {
	t.Helper()
	s, e := schema.New("mark b\nmark i val=9\nmark code bars=*\nnode doc : block+\nnode q group=block attr=9 : block+\nnode p group=block marks=* : (text|br|t)*\nnode h group=block attr=3 marks=b : text*\nnode hr group=block attr=2\nnode br inline\nnode t attr=9 inline\nnode fig group=block : p hr? p?\n")
	if e != api.OK {
		t.Fatal(e)
	}
	return s
}

// parsed are a line's tokens.
func parsed(t testing.TB, s *schema.Schema, line string) []api.Token {
	t.Helper()
	l, at, e := token.Parse(s, line)
	if e != api.OK {
		t.Fatal(line, at, e)
	}
	return l
}

// doc is a line's document.
func doc(t testing.TB, s *schema.Schema, line string) *tree.Node {
	t.Helper()
	n, e := fits.Doc(s, parsed(t, s, line))
	if e != api.OK {
		t.Fatal(line, e)
	}
	return n
}

// line is a document's line.
func line(t testing.TB, s *schema.Schema, n *tree.Node) string {
	t.Helper()
	w, ok := token.Show(s, n.Tokens())
	if !ok {
		t.Fatal(n)
	}
	return w
}

// holds holds a move against the step that is asked for, and what it makes against a line; an error against that one.
func holds(t *testing.T, s *schema.Schema, n *tree.Node, x api.Step, e api.Errno, want api.Step, now string, f api.Errno) {
	t.Helper()
	if f != api.OK {
		want = api.Step{}
	}
	if e != f || !step.Same(x, want) {
		t.Errorf("%+v, %v, not %+v, %v", x, e, want, f)
	}
	if e != api.OK {
		return
	}
	m, e := step.Apply(s, n, x)
	if e != api.OK || line(t, s, m) != now {
		t.Errorf("%+v: %q, not %q", x, line(t, s, m), now)
	}
}

// P29.1: nodes are split as deep as is asked.
func TestSplit(t *testing.T) {
	s := made(t)
	n := doc(t, s, `<q=4 <h=2 "abc > <p "d i=1*t=5 > *hr > *hr <fig <p "xy > > <p >`)
	for _, x := range []struct {
		at, deep int
		row, now string
		e        api.Errno
	}{
		{3, 1, `> <h=2`, `<q=4 <h=2 "a > <h=2 "bc > <p "d i=1*t=5 > *hr > *hr <fig <p "xy > > <p >`, api.OK},
		{3, 2, `> > <q=4 <h=2`, `<q=4 <h=2 "a > > <q=4 <h=2 "bc > <p "d i=1*t=5 > *hr > *hr <fig <p "xy > > <p >`, api.OK},
		{2, 2, `> > <q=4 <h=2`, `<q=4 <h=2 > > <q=4 <h=2 "abc > <p "d i=1*t=5 > *hr > *hr <fig <p "xy > > <p >`, api.OK},
		{5, 1, `> <h=2`, `<q=4 <h=2 "abc > <h=2 > <p "d i=1*t=5 > *hr > *hr <fig <p "xy > > <p >`, api.OK},
		{8, 1, `> <p`, `<q=4 <h=2 "abc > <p "d > <p i=1*t=5 > *hr > *hr <fig <p "xy > > <p >`, api.OK},
		{8, 2, `> > <q=4 <p`, `<q=4 <h=2 "abc > <p "d > > <q=4 <p i=1*t=5 > *hr > *hr <fig <p "xy > > <p >`, api.OK},
		{6, 1, `> <q=4`, `<q=4 <h=2 "abc > > <q=4 <p "d i=1*t=5 > *hr > *hr <fig <p "xy > > <p >`, api.OK},
		{10, 1, `> <q=4`, `<q=4 <h=2 "abc > <p "d i=1*t=5 > > <q=4 *hr > *hr <fig <p "xy > > <p >`, api.OK},
		{16, 2, `> > <fig <p`, `<q=4 <h=2 "abc > <p "d i=1*t=5 > *hr > *hr <fig <p "x > > <fig <p "y > > <p >`, api.OK},
		{20, 1, `> <p`, `<q=4 <h=2 "abc > <p "d i=1*t=5 > *hr > *hr <fig <p "xy > > <p > <p >`, api.OK},
		// What would be left isn't right.
		{1, 1, ``, ``, api.ErrFit}, {11, 1, ``, ``, api.ErrFit}, {14, 1, ``, ``, api.ErrFit}, {18, 1, ``, ``, api.ErrFit},
		// The depth there is less, or none.
		{3, 3, ``, ``, api.ErrRange}, {3, 0, ``, ``, api.ErrRange}, {3, -1, ``, ``, api.ErrRange}, {3, great, ``, ``, api.ErrRange}, {3, least, ``, ``, api.ErrRange}, {3, 1<<32 + 1, ``, ``, api.ErrRange}, {1, 2, ``, ``, api.ErrRange}, {20, 2, ``, ``, api.ErrRange},
		{0, 1, ``, ``, api.ErrRange}, {12, 1, ``, ``, api.ErrRange}, {13, 1, ``, ``, api.ErrRange}, {19, 1, ``, ``, api.ErrRange}, {21, 1, ``, ``, api.ErrRange}, {21, 0, ``, ``, api.ErrRange},
		// No position.
		{22, 1, ``, ``, api.ErrRange}, {-1, 1, ``, ``, api.ErrRange}, {least, 1, ``, ``, api.ErrRange}, {great, 1, ``, ``, api.ErrRange}, {1<<32 + 3, 1, ``, ``, api.ErrRange},
	} {
		y, e := Split(s, n, x.at, x.deep)
		holds(t, s, n, y, e, api.Step{Kind: api.Splice, From: x.at, To: x.at, Slice: parsed(t, s, x.row)}, x.now, x.e)
	}
}

// P29.1: two nodes that meet become one, of the type of the one ahead.
func TestJoin(t *testing.T) {
	s := made(t)
	n := doc(t, s, `<q=4 <h=2 "a > <h b"b > > <q <p "c > > <p i=3"d > *hr <p *br > <h > <p > <fig <p "e > <p "f > >`)
	for _, x := range []struct {
		at  int
		now string
		e   api.Errno
	}{
		{4, `<q=4 <h=2 "a b"b > > <q <p "c > > <p i=3"d > *hr <p *br > <h > <p > <fig <p "e > <p "f > >`, api.OK},
		{8, `<q=4 <h=2 "a > <h b"b > <p "c > > <p i=3"d > *hr <p *br > <h > <p > <fig <p "e > <p "f > >`, api.OK},
		{22, `<q=4 <h=2 "a > <h b"b > > <q <p "c > > <p i=3"d > *hr <p *br > <h > <fig <p "e > <p "f > >`, api.OK},
		{20, `<q=4 <h=2 "a > <h b"b > > <q <p "c > > <p i=3"d > *hr <p *br > <p > <fig <p "e > <p "f > >`, api.OK},
		{28, `<q=4 <h=2 "a > <h b"b > > <q <p "c > > <p i=3"d > *hr <p *br > <h > <p > <fig <p "ef > >`, api.OK},
		// What would be within isn't right.
		{13, ``, api.ErrFit}, {24, ``, api.ErrFit},
		// No two nodes, or a leaf, or letters.
		{0, ``, api.ErrRange}, {1, ``, api.ErrRange}, {2, ``, api.ErrRange}, {3, ``, api.ErrRange}, {7, ``, api.ErrRange}, {9, ``, api.ErrRange}, {16, ``, api.ErrRange}, {17, ``, api.ErrRange}, {15, ``, api.ErrRange}, {18, ``, api.ErrRange}, {19, ``, api.ErrRange}, {21, ``, api.ErrRange}, {23, ``, api.ErrRange}, {31, ``, api.ErrRange}, {32, ``, api.ErrRange},
		{33, ``, api.ErrRange}, {-1, ``, api.ErrRange}, {least, ``, api.ErrRange}, {great, ``, api.ErrRange}, {1<<32 + 4, ``, api.ErrRange},
	} {
		y, e := Join(s, n, x.at)
		holds(t, s, n, y, e, api.Step{Kind: api.Splice, From: x.at - 1, To: x.at + 1}, x.now, x.e)
	}
	// In the midst of a text, and between texts and leaves, nothing is joined; marks may not be in the one ahead.
	n = doc(t, s, `<p "ab i"c *br *t > <h > <p i"d >`)
	for at := range 7 {
		y, e := Join(s, n, at)
		holds(t, s, n, y, e, api.Step{}, ``, api.ErrRange)
	}
	y, e := Join(s, n, 9)
	holds(t, s, n, y, e, api.Step{}, ``, api.ErrMark)
}

// P29.2: what is within a node stands where it stood.
func TestLift(t *testing.T) {
	s := made(t)
	n := doc(t, s, `<q=4 <h=2 "a > <q *hr=1 <p "b *br > > > <p > <fig <p "c > *hr >`)
	for _, x := range []struct {
		at, from, to int
		now          string
		e            api.Errno
	}{
		{1, 0, 12, `<h=2 "a > <q *hr=1 <p "b *br > > <p > <fig <p "c > *hr >`, api.OK},
		{4, 0, 12, `<h=2 "a > <q *hr=1 <p "b *br > > <p > <fig <p "c > *hr >`, api.OK},
		{11, 0, 12, `<h=2 "a > <q *hr=1 <p "b *br > > <p > <fig <p "c > *hr >`, api.OK},
		{5, 4, 11, `<q=4 <h=2 "a > *hr=1 <p "b *br > > <p > <fig <p "c > *hr >`, api.OK},
		{6, 4, 11, `<q=4 <h=2 "a > *hr=1 <p "b *br > > <p > <fig <p "c > *hr >`, api.OK},
		{10, 4, 11, `<q=4 <h=2 "a > *hr=1 <p "b *br > > <p > <fig <p "c > *hr >`, api.OK},
		{13, 12, 14, `<q=4 <h=2 "a > <q *hr=1 <p "b *br > > > <fig <p "c > *hr >`, api.OK},
		{15, 14, 20, `<q=4 <h=2 "a > <q *hr=1 <p "b *br > > > <p > <p "c > *hr`, api.OK},
		{19, 14, 20, `<q=4 <h=2 "a > <q *hr=1 <p "b *br > > > <p > <p "c > *hr`, api.OK},
		{2, 0, 0, ``, api.ErrFit}, {3, 0, 0, ``, api.ErrFit}, {7, 0, 0, ``, api.ErrFit}, {8, 0, 0, ``, api.ErrFit}, {9, 0, 0, ``, api.ErrFit}, {16, 0, 0, ``, api.ErrFit},
		{0, 0, 0, ``, api.ErrRange}, {12, 0, 0, ``, api.ErrRange}, {14, 0, 0, ``, api.ErrRange}, {20, 0, 0, ``, api.ErrRange},
		{21, 0, 0, ``, api.ErrRange}, {-1, 0, 0, ``, api.ErrRange}, {least, 0, 0, ``, api.ErrRange}, {great, 0, 0, ``, api.ErrRange}, {1<<32 + 1, 0, 0, ``, api.ErrRange},
	} {
		y, e := Lift(s, n, x.at)
		holds(t, s, n, y, e, api.Step{Kind: api.Around, From: x.from, To: x.to, GapFrom: x.from + 1, GapTo: x.to - 1}, x.now, x.e)
	}
	// Nothing is left of the document.
	y, e := Lift(s, doc(t, s, `<p >`), 1)
	holds(t, s, n, y, e, api.Step{}, ``, api.ErrFit)
}

// P29.2: a node is laid around what is flat.
func TestWrap(t *testing.T) {
	s := made(t)
	n := doc(t, s, `<h=2 "ab > <p "c i*t > *hr <fig <p > >`)
	for _, x := range []struct {
		from, to, typ, attr int
		row, now            string
		e                   api.Errno
	}{
		{0, 4, 2, 0, `<q >`, `<q <h=2 "ab > > <p "c i*t > *hr <fig <p > >`, api.OK},
		{0, 4, 2, 9, `<q=9 >`, `<q=9 <h=2 "ab > > <p "c i*t > *hr <fig <p > >`, api.OK},
		{0, 13, 2, 1, `<q=1 >`, `<q=1 <h=2 "ab > <p "c i*t > *hr <fig <p > > >`, api.OK},
		{8, 9, 2, 0, `<q >`, `<h=2 "ab > <p "c i*t > <q *hr > <fig <p > >`, api.OK},
		{4, 9, 8, 0, `<fig >`, `<h=2 "ab > <fig <p "c i*t > *hr > <fig <p > >`, api.OK},
		{4, 4, 3, 0, `<p >`, `<h=2 "ab > <p > <p "c i*t > *hr <fig <p > >`, api.OK},
		{0, 0, 4, 3, `<h=3 >`, `<h=3 > <h=2 "ab > <p "c i*t > *hr <fig <p > >`, api.OK},
		{13, 13, 3, 0, `<p >`, `<h=2 "ab > <p "c i*t > *hr <fig <p > > <p >`, api.OK},
		{12, 12, 3, 0, `<p >`, `<h=2 "ab > <p "c i*t > *hr <fig <p > <p > >`, api.OK},
		{9, 9, 2, 0, ``, ``, api.ErrFit}, {0, 4, 3, 0, ``, ``, api.ErrFit}, {1, 2, 2, 0, ``, ``, api.ErrFit}, {1, 3, 3, 0, ``, ``, api.ErrFit}, {2, 2, 3, 0, ``, ``, api.ErrFit}, {10, 12, 2, 0, ``, ``, api.ErrFit}, {0, 13, 8, 0, ``, ``, api.ErrFit}, {0, 13, 1, 0, ``, ``, api.ErrFit},
		// No such node.
		{0, 4, 5, 0, ``, ``, api.ErrArg}, {0, 4, 0, 0, ``, ``, api.ErrArg}, {0, 4, -1, 0, ``, ``, api.ErrArg}, {0, 4, 9, 0, ``, ``, api.ErrArg}, {0, 4, 6, 0, ``, ``, api.ErrArg}, {0, 4, 2, 10, ``, ``, api.ErrArg}, {0, 4, 2, -1, ``, ``, api.ErrArg}, {0, 4, 3, 1, ``, ``, api.ErrArg}, {0, 4, 1<<32 + 2, 0, ``, ``, api.ErrArg}, {0, 4, 2, 1 << 32, ``, ``, api.ErrArg}, {0, 4, least, great, ``, ``, api.ErrArg},
		// Not flat; of that the error is told ahead of the type's.
		{0, 1, 2, 0, ``, ``, api.ErrRange}, {0, 5, 2, 0, ``, ``, api.ErrRange}, {3, 5, 2, 0, ``, ``, api.ErrRange}, {1, 4, 2, 0, ``, ``, api.ErrRange}, {7, 9, 2, 0, ``, ``, api.ErrRange}, {7, 8, 2, 0, ``, ``, api.ErrRange}, {10, 11, 0, 0, ``, ``, api.ErrRange}, {3, 5, -1, -1, ``, ``, api.ErrRange},
		// No positions.
		{4, 0, 2, 0, ``, ``, api.ErrRange}, {-1, 4, 2, 0, ``, ``, api.ErrRange}, {0, 14, 2, 0, ``, ``, api.ErrRange}, {14, 14, 2, 0, ``, ``, api.ErrRange}, {-1, -1, 2, 0, ``, ``, api.ErrRange}, {least, great, 2, 0, ``, ``, api.ErrRange}, {great, least, 0, 0, ``, ``, api.ErrRange}, {0, 1<<32 + 4, 2, 0, ``, ``, api.ErrRange}, {1 << 32, 1<<32 + 4, 2, 0, ``, ``, api.ErrRange},
	} {
		y, e := Wrap(s, n, x.from, x.to, x.typ, x.attr)
		holds(t, s, n, y, e, api.Step{Kind: api.Around, From: x.from, To: x.to, GapFrom: x.from, GapTo: x.to, Insert: 1, Slice: parsed(t, s, x.row)}, x.now, x.e)
	}
}

// P29.3: a leaf is another leaf with its marks.
func TestRetypeLeaf(t *testing.T) {
	s := made(t)
	n := doc(t, s, `<p "a b+i=3*t=5 *br > *hr=2`)
	for _, x := range []struct {
		at, typ, attr int
		row, now      string
		e             api.Errno
	}{
		{2, 6, 0, `b+i=3*br`, `<p "a b+i=3*br *br > *hr=2`, api.OK}, {2, 7, 0, `b+i=3*t`, `<p "a b+i=3*t *br > *hr=2`, api.OK}, {2, 7, 9, `b+i=3*t=9`, `<p "a b+i=3*t=9 *br > *hr=2`, api.OK}, {2, 7, 5, `b+i=3*t=5`, `<p "a b+i=3*t=5 *br > *hr=2`, api.OK}, {3, 7, 1, `*t=1`, `<p "a b+i=3*t=5 *t=1 > *hr=2`, api.OK}, {5, 5, 0, `*hr`, `<p "a b+i=3*t=5 *br > *hr`, api.OK}, {5, 5, 1, `*hr=1`, `<p "a b+i=3*t=5 *br > *hr=1`, api.OK},
		{3, 5, 0, ``, ``, api.ErrFit}, {5, 6, 0, ``, ``, api.ErrFit},
		// No such leaf; one that isn't inline has no marks.
		{2, 5, 0, ``, ``, api.ErrArg}, {2, 3, 0, ``, ``, api.ErrArg}, {5, 3, 0, ``, ``, api.ErrArg}, {2, 0, 0, ``, ``, api.ErrArg}, {2, 9, 0, ``, ``, api.ErrArg}, {2, -1, 0, ``, ``, api.ErrArg}, {2, 7, 10, ``, ``, api.ErrArg}, {2, 7, -1, ``, ``, api.ErrArg}, {2, 6, 1, ``, ``, api.ErrArg}, {2, 1<<32 + 6, 0, ``, ``, api.ErrArg}, {2, 7, 1 << 32, ``, ``, api.ErrArg}, {5, great, least, ``, ``, api.ErrArg},
	} {
		y, e := Retype(s, n, x.at, x.typ, x.attr)
		holds(t, s, n, y, e, api.Step{Kind: api.Splice, From: x.at, To: x.at + 1, Slice: parsed(t, s, x.row)}, x.now, x.e)
	}
}

// P29.3: another node is one of another type, with what is within it.
func TestRetype(t *testing.T) {
	s := made(t)
	n := doc(t, s, `<q=4 <h=2 "ab b"c > > <p "d i=1*t > <fig <p > > *hr <h >`)
	for _, x := range []struct {
		at, to, typ, attr int
		row, now          string
		e                 api.Errno
	}{
		{1, 6, 3, 0, `<p >`, `<q=4 <p "ab b"c > > <p "d i=1*t > <fig <p > > *hr <h >`, api.OK}, {1, 6, 4, 1, `<h=1 >`, `<q=4 <h=1 "ab b"c > > <p "d i=1*t > <fig <p > > *hr <h >`, api.OK}, {1, 6, 4, 2, `<h=2 >`, `<q=4 <h=2 "ab b"c > > <p "d i=1*t > <fig <p > > *hr <h >`, api.OK}, {0, 7, 2, 9, `<q=9 >`, `<q=9 <h=2 "ab b"c > > <p "d i=1*t > <fig <p > > *hr <h >`, api.OK}, {11, 15, 2, 0, `<q >`, `<q=4 <h=2 "ab b"c > > <p "d i=1*t > <q <p > > *hr <h >`, api.OK}, {12, 14, 3, 0, `<p >`, `<q=4 <h=2 "ab b"c > > <p "d i=1*t > <fig <p > > *hr <h >`, api.OK}, {16, 18, 3, 0, `<p >`, `<q=4 <h=2 "ab b"c > > <p "d i=1*t > <fig <p > > *hr <p >`, api.OK},
		{12, 0, 4, 0, ``, ``, api.ErrFit}, {0, 0, 3, 0, ``, ``, api.ErrFit}, {0, 0, 8, 0, ``, ``, api.ErrFit}, {7, 0, 4, 0, ``, ``, api.ErrFit}, {1, 0, 1, 0, ``, ``, api.ErrFit}, {16, 0, 2, 0, ``, ``, api.ErrFit},
		{1, 0, 5, 0, ``, ``, api.ErrArg}, {16, 0, 5, 0, ``, ``, api.ErrArg}, {1, 0, 0, 0, ``, ``, api.ErrArg}, {1, 0, -1, 0, ``, ``, api.ErrArg}, {1, 0, 9, 0, ``, ``, api.ErrArg}, {1, 0, 4, 4, ``, ``, api.ErrArg}, {1, 0, 4, -1, ``, ``, api.ErrArg}, {1, 0, 3, 1, ``, ``, api.ErrArg}, {1, 0, 1<<32 + 3, 0, ``, ``, api.ErrArg}, {1, 0, 3, 1 << 32, ``, ``, api.ErrArg}, {1, 0, least, least, ``, ``, api.ErrArg},
		// No node begins, or a text does; that is told ahead of the type's error.
		{2, 0, 3, 0, ``, ``, api.ErrRange}, {3, 0, 3, 0, ``, ``, api.ErrRange}, {4, 0, 3, 0, ``, ``, api.ErrRange}, {5, 0, 3, 0, ``, ``, api.ErrRange}, {6, 0, 3, 0, ``, ``, api.ErrRange}, {8, 0, 3, 0, ``, ``, api.ErrRange}, {10, 0, 3, 0, ``, ``, api.ErrRange}, {13, 0, 3, 0, ``, ``, api.ErrRange}, {17, 0, 3, 0, ``, ``, api.ErrRange}, {18, 0, 3, 0, ``, ``, api.ErrRange}, {18, 0, -1, -1, ``, ``, api.ErrRange}, {2, 0, 0, 0, ``, ``, api.ErrRange}, {2, 0, 6, 0, ``, ``, api.ErrRange},
		{19, 0, 3, 0, ``, ``, api.ErrRange}, {-1, 0, 3, 0, ``, ``, api.ErrRange}, {least, 0, 0, 0, ``, ``, api.ErrRange}, {great, 0, 3, 0, ``, ``, api.ErrRange}, {1<<32 + 1, 0, 3, 0, ``, ``, api.ErrRange},
	} {
		y, e := Retype(s, n, x.at, x.typ, x.attr)
		holds(t, s, n, y, e, api.Step{Kind: api.Around, From: x.at, To: x.to, GapFrom: x.at + 1, GapTo: x.to - 1, Insert: 1, Slice: parsed(t, s, x.row)}, x.now, x.e)
	}
	// Marks that may not be in the other type.
	n = doc(t, s, `<p i"a >`)
	y, e := Retype(s, n, 0, 4, 0)
	holds(t, s, n, y, e, api.Step{}, ``, api.ErrMark)
}

// all are the moves, all of whose positions are one.
func all() []func(s *schema.Schema, n *tree.Node, at int) (api.Step, api.Errno) {
	return []func(s *schema.Schema, n *tree.Node, at int) (api.Step, api.Errno){
		func(s *schema.Schema, n *tree.Node, at int) (api.Step, api.Errno) { return Split(s, n, at, 1) },
		func(s *schema.Schema, n *tree.Node, at int) (api.Step, api.Errno) { return Wrap(s, n, at, at, 3, 0) },
		func(s *schema.Schema, n *tree.Node, at int) (api.Step, api.Errno) { return Retype(s, n, at, 3, 0) },
		Join, Lift,
	}
}

// P29.1 to P29.3: nil is told ahead of all else; in what holds no tokens there are no positions.
func TestNone(t *testing.T) {
	s := made(t)
	n := doc(t, s, `<q <p "ab > <p > > *hr`)
	for i, move := range all() {
		for _, at := range []int{0, 2, 5, -1, 99, least, great} {
			for _, x := range []struct {
				s *schema.Schema
				n *tree.Node
			}{{nil, n}, {s, nil}, {nil, nil}, {nil, n.Kid(1)}} {
				if y, e := move(x.s, x.n, at); e != api.ErrNil || !step.Same(y, api.Step{}) {
					t.Error(i, at, y, e)
				}
			}
			for k, other := range []*tree.Node{{}, n.Kid(1), n.Kid(0).Kid(0).Kid(0), tree.Make(api.Token{Kind: api.Leaf, Type: 1})} {
				if y, e := move(s, other, at); e != api.ErrRange || !step.Same(y, api.Step{}) {
					t.Error(i, k, at, y, e)
				}
			}
		}
	}
	for _, x := range [][2]int{{4, 0}, {0, 3}, {least, great}} {
		if y, e := Wrap(nil, n, x[0], x[1], -1, -1); e != api.ErrNil || !step.Same(y, api.Step{}) {
			t.Error(y, e)
		}
	}
	if y, e := Split(nil, n, 2, 9); e != api.ErrNil || !step.Same(y, api.Step{}) {
		t.Error(y, e)
	}
}

// P29.1 to P29.3: documents that are as deep, and as long, as may be.
func TestLimits(t *testing.T) {
	s := made(t)
	n := doc(t, s, strings.Repeat("<q ", 39)+`<p "ab `+strings.Repeat("> ", 39)+">")
	x, e := Split(s, n, 41, 40)
	holds(t, s, n, x, e, api.Step{Kind: api.Splice, From: 41, To: 41, Slice: parsed(t, s, strings.Repeat("> ", 40)+strings.Repeat("<q ", 39)+"<p")}, strings.Repeat("<q ", 39)+`<p "a `+strings.Repeat("> ", 40)+strings.Repeat("<q ", 39)+`<p "b `+strings.Repeat("> ", 39)+">", api.OK)
	if x, e = Split(s, n, 41, 41); e != api.ErrRange || !step.Same(x, api.Step{}) {
		t.Error(x, e)
	}
	if x, e = Wrap(s, n, 39, 43, 2, 0); e != api.ErrOpen || !step.Same(x, api.Step{}) {
		t.Error(x, e)
	}
	if x, e = Lift(s, n, 39); e != api.OK || x.From != 38 || x.To != 44 {
		t.Error(x, e)
	}
	n = tree.Make(api.Token{Kind: api.Open, Type: 1}, slices.Repeat([]*tree.Node{tree.Make(api.Token{Kind: api.Open, Type: 3})}, 10000)...)
	for i, move := range all()[:2] {
		if x, e = move(s, n, 1-i); e != api.ErrLong || !step.Same(x, api.Step{}) {
			t.Error(i, x, e)
		}
	}
	for i, move := range all()[2:] {
		if x, e = move(s, n, []int{10, 10, 11}[i]); e != api.OK {
			t.Error(i, x, e)
		}
	}
}

// P1: nodes that are deeper, or greater, than documents may be are refused, too.
func TestGreat(t *testing.T) {
	s := made(t)
	q, p := api.Token{Kind: api.Open, Type: 2}, tree.Make(api.Token{Kind: api.Open, Type: 3}, tree.Make(api.Token{Kind: api.Char, Rune: 'a'}))
	const deep = 2000
	n := p
	for range deep {
		n = tree.Make(q, n)
	}
	n = tree.Make(api.Token{Kind: api.Open, Type: 1}, n)
	for _, at := range []int{1, 40, 41, 42, deep} {
		for _, by := range []int{1, at} {
			if x, e := Split(s, n, at, by); e != api.ErrOpen || !step.Same(x, api.Step{}) {
				t.Error(at, by, e)
			}
		}
		if x, e := Split(s, n, at, at+1); e != api.ErrRange || !step.Same(x, api.Step{}) {
			t.Error(at, e)
		}
		if x, e := Lift(s, n, at); e != api.ErrOpen || !step.Same(x, api.Step{}) {
			t.Error(at, e)
		}
	}
	n = p
	for range 50 {
		n = tree.Make(q, n, n)
	}
	n = tree.Make(api.Token{Kind: api.Open, Type: 1}, n)
	for i, move := range all() {
		if x, e := move(s, n, 50); e == api.OK || e == api.ErrNil || !step.Same(x, api.Step{}) {
			t.Error(i, x, e)
		}
	}
}

// P29.1: an open token is the one that stands there, whatever stands in it: step refuses what may not be.
func TestOddNodes(t *testing.T) {
	s := made(t)
	letter := tree.Make(api.Token{Kind: api.Char, Rune: 'a'})
	for i, open := range []api.Token{{Kind: api.Open, Type: 3, Rune: 7}, {Kind: api.Open, Type: 3, Attr: 1}, {Kind: api.Open, Type: 3, Marks: api.Marks{1}}, {Kind: api.Open, Type: 5}, {Kind: api.Open, Type: -1}} {
		n := tree.Make(api.Token{Kind: api.Open, Type: 1}, tree.Make(open, letter))
		if x, e := Split(s, n, 1, 1); e != api.ErrArg || !step.Same(x, api.Step{}) {
			t.Error(i, x, e)
		}
		// Lifted, it is gone, but its letter can't stand there; retyped, it is right.
		if x, e := Lift(s, n, 1); e != api.ErrFit || !step.Same(x, api.Step{}) {
			t.Error(i, x, e)
		}
		if x, e := Retype(s, n, 0, 3, 0); e != api.OK {
			t.Error(i, x, e)
		}
	}
	// A leaf that was told with the type of texts is no text.
	n := tree.Make(api.Token{Kind: api.Open, Type: 1}, tree.Make(api.Token{Kind: api.Leaf}))
	x, e := Retype(s, n, 0, 5, 0)
	holds(t, s, n, x, e, api.Step{Kind: api.Splice, To: 1, Slice: parsed(t, s, "*hr")}, "*hr", api.OK)
}

// P29.4: what is split once is joined there, and what is wrapped is lifted.
func TestThereAndBack(t *testing.T) {
	s := made(t)
	n := doc(t, s, `<p "ab >`)
	x, e := Split(s, n, 2, 1)
	holds(t, s, n, x, e, api.Step{Kind: api.Splice, From: 2, To: 2, Slice: parsed(t, s, "> <p")}, `<p "a > <p "b >`, api.OK)
	m, e := step.Apply(s, n, x)
	if e != api.OK {
		t.Fatal(e)
	}
	x, e = Join(s, m, 3)
	holds(t, s, m, x, e, api.Step{Kind: api.Splice, From: 2, To: 4}, `<p "ab >`, api.OK)
	x, e = Wrap(s, n, 0, 4, 2, 7)
	if m, e = step.Apply(s, n, x); e != api.OK {
		t.Fatal(x, e)
	}
	x, e = Lift(s, m, 1)
	holds(t, s, m, x, e, api.Step{Kind: api.Around, To: 6, GapFrom: 1, GapTo: 5}, `<p "ab >`, api.OK)
}

// P3, P6: documents stay as they are, and each move is new.
func TestStays(t *testing.T) {
	s := made(t)
	const before = `<q=4 <p "ab i*t=2 > <h=1 > > <p > <p >`
	n := doc(t, s, before)
	told := func() []api.Step {
		var l []api.Step
		for _, made := range []func() (api.Step, api.Errno){
			func() (api.Step, api.Errno) { return Split(s, n, 3, 2) },
			func() (api.Step, api.Errno) { return Join(s, n, 11) },
			func() (api.Step, api.Errno) { return Lift(s, n, 1) },
			func() (api.Step, api.Errno) { return Wrap(s, n, 0, 9, 2, 3) },
			func() (api.Step, api.Errno) { return Retype(s, n, 4, 7, 4) },
			func() (api.Step, api.Errno) { return Retype(s, n, 6, 4, 2) },
		} {
			x, e := made()
			if e != api.OK {
				t.Fatal(len(l), e)
			}
			l = append(l, x)
		}
		return l
	}
	was := told()
	for range 2 {
		got := told()
		if !slices.EqualFunc(got, was, step.Same) {
			t.Fatal(got, was)
		}
		for _, x := range got {
			_ = append(x.Slice, api.Token{Kind: 9})
			clear(x.Slice)
		}
		if line(t, s, n) != before {
			t.Fatal(line(t, s, n))
		}
	}
}
