package follow

import (
	"slices"
	"testing"

	"stet/api"
	"stet/route"
	"stet/schema"
	"stet/sel"
	"stet/smap"
	"stet/token"
	"stet/tree"
)

const (
	least = -1 << 63
	most  = 1 << 40
	great = 1<<63 - 1
)

// made is the schema that the tests know: doc is 1, quote 2, p 3, h 4, hr 5, br 6, t 7, wall 8. A quote, an hr, and a t may be selected.
func made(t testing.TB) *schema.Schema {
	t.Helper()
	s, e := schema.New("mark b\nnode doc : block*\nnode quote group=block pick : block*\nnode p group=block marks=* : (text|br|t)*\nnode h group=block : t*\nnode hr group=block pick\nnode br inline\nnode t inline pick\nnode wall group=block : wall*\n")
	if e != api.OK {
		t.Fatal(e)
	}
	return s
}

// built is a line's tree, whether or not it is right.
func built(t testing.TB, s *schema.Schema, line string) *tree.Node {
	t.Helper()
	l, at, e := token.Parse(s, line)
	if e != api.OK {
		t.Fatal(line, at, e)
	}
	n, e := tree.Build(s, l)
	if e != api.OK {
		t.Fatal(line, e)
	}
	return n
}

func ofText(anchor, head int) api.Sel {
	return api.Sel{Kind: api.SelText, Anchor: anchor, Head: head}
}

func ofNode(anchor, head int) api.Sel {
	return api.Sel{Kind: api.SelNode, Anchor: anchor, Head: head}
}

func ofAll(head int) api.Sel { return api.Sel{Kind: api.SelAll, Head: head} }

// list is a map of numbers, three for each range.
func list(numbers ...int) []api.Range {
	var m []api.Range
	for i := 0; i < len(numbers); i += 3 {
		m = append(m, api.Range{At: numbers[i], Old: numbers[i+1], New: numbers[i+2]})
	}
	return m
}

// routed is a route of maps, none of which mirrors another one.
func routed(t testing.TB, maps ...[]api.Range) *route.Route {
	t.Helper()
	var r route.Route
	for _, m := range maps {
		if e := r.Add(m); e != api.OK {
			t.Fatal(m, e)
		}
	}
	return &r
}

// far are positions that can't go through a map.
func far() []int { return []int{least, least + 1, -most, -2, -1, most + 1, 1 << 62, great - 1, great} }

// P33.1: the example.
func TestExample(t *testing.T) {
	s := made(t)
	n := built(t, s, `<p "axb >`)
	if x := Over(s, n, ofText(1, 3), list(2, 0, 1)); x != ofText(1, 4) {
		t.Error(x)
	}
}

// P33.1: what each kind comes to behind one map.
func TestOver(t *testing.T) {
	s := made(t)
	const (
		two    = `<p "abcd > *hr <p "ef >` // 0 to 11: abcd at 1 to 5, hr at 6, ef at 8 to 10
		walls  = `<p "ab > <wall > <h *t *t >`
		quotes = `<quote <p "a *t > *hr > <p "b >` // 0 to 10: a at 2, t at 3, hr at 5, b at 8
	)
	for _, x := range []struct {
		line    string
		x, want api.Sel
		m       []api.Range
	}{
		// Of text: both ends go on the right side, whichever is ahead.
		{two, ofText(1, 4), ofText(1, 4), nil}, {two, ofText(4, 1), ofText(4, 1), nil}, {two, ofText(2, 8), ofText(2, 8), list(11, 0, 3)},
		{two, ofText(1, 1), ofText(3, 3), list(1, 0, 2)}, {two, ofText(1, 2), ofText(3, 4), list(1, 0, 2)}, {two, ofText(2, 1), ofText(4, 3), list(1, 0, 2)}, {two, ofText(1, 3), ofText(1, 5), list(3, 0, 2)}, {two, ofText(3, 1), ofText(5, 1), list(3, 0, 2)}, {two, ofText(1, 4), ofText(1, 4), list(5, 0, 2)},
		{two, ofText(2, 5), ofText(2, 3), list(2, 2, 0)}, {two, ofText(3, 3), ofText(2, 2), list(2, 2, 0)}, {two, ofText(3, 3), ofText(5, 5), list(2, 2, 3)}, {two, ofText(2, 4), ofText(2, 5), list(2, 2, 3)}, {two, ofText(9, 2), ofText(10, 3), list(0, 0, 1)},
		// If it isn't valid there, it is the one near where the head comes to, whatever is near the anchor.
		{two, ofText(1, 5), ofNode(6, 7), list(5, 0, 1)}, {two, ofText(5, 1), ofText(1, 1), list(5, 0, 1)}, {two, ofText(6, 3), ofText(3, 3), nil}, {two, ofText(3, 6), ofNode(6, 7), nil}, {two, ofText(8, 7), ofText(8, 8), nil}, {two, ofText(3, 0), ofText(1, 1), nil}, {two, ofText(3, 11), ofText(10, 10), nil}, {two, ofText(3, 12), ofText(10, 10), nil}, {two, ofText(0, 4), ofText(4, 4), nil},
		{walls, ofText(1, 4), ofText(7, 7), nil}, {walls, ofText(4, 2), ofText(2, 2), nil}, {walls, ofText(2, 5), ofText(7, 7), nil}, {walls, ofText(7, 9), ofText(7, 9), nil},
		{``, ofText(1, 3), ofAll(0), list(0, 9, 0)}, {`<wall >`, ofText(1, 1), ofAll(2), nil}, {`*hr`, ofText(1, 1), ofNode(0, 1), list(0, 3, 1)},
		// Of a node: the one that begins where the anchor comes to, however far it goes, wherever the head is.
		{two, ofNode(6, 7), ofNode(6, 7), nil}, {two, ofNode(5, 6), ofNode(6, 7), list(5, 0, 1)}, {two, ofNode(7, 8), ofNode(6, 7), list(2, 1, 0)}, {two, ofNode(9, 10), ofNode(6, 7), list(6, 3, 0)}, {two, ofNode(6, 99), ofNode(6, 7), nil}, {two, ofNode(6, least), ofNode(6, 7), nil}, {two, ofNode(6, 0), ofNode(6, 7), list(0, 0, 0)},
		{quotes, ofNode(0, 7), ofNode(0, 7), nil}, {quotes, ofNode(0, 9), ofNode(0, 7), list(2, 2, 0)}, {quotes, ofNode(1, 2), ofNode(5, 6), list(1, 0, 4)}, {quotes, ofNode(2, 3), ofNode(0, 7), list(0, 2, 0)},
		// Where text may be, too, the node is selected still.
		{quotes, ofNode(3, 4), ofNode(3, 4), nil}, {quotes, ofNode(2, 3), ofNode(3, 4), list(2, 0, 1)}, {walls, ofNode(7, 8), ofNode(7, 8), nil}, {walls, ofNode(9, 10), ofNode(8, 9), list(4, 1, 0)},
		// If there is none, it is the one near that place.
		{two, ofNode(6, 7), ofText(8, 8), list(6, 0, 1)}, {two, ofNode(7, 8), ofText(8, 8), nil}, {two, ofNode(0, 6), ofText(1, 1), nil}, {two, ofNode(2, 3), ofText(2, 2), nil}, {two, ofNode(11, 12), ofText(10, 10), nil}, {two, ofNode(5, 6), ofText(5, 5), nil}, {quotes, ofNode(2, 3), ofText(2, 2), nil}, {quotes, ofNode(1, 5), ofText(2, 2), nil}, {quotes, ofNode(6, 7), ofText(8, 8), nil},
		{`<wall >`, ofNode(0, 2), ofAll(2), nil}, {``, ofNode(0, 1), ofAll(0), list(0, 1, 0)},
		// Of all: all that there is.
		{two, ofAll(11), ofAll(11), nil}, {two, ofAll(9), ofAll(11), list(2, 0, 2)}, {two, ofAll(0), ofAll(11), list(0, 0, 11)}, {``, ofAll(7), ofAll(0), list(0, 7, 0)}, {two, api.Sel{Kind: api.SelAll, Anchor: 6, Head: least}, ofAll(11), nil},
		// Of another kind: the one near 0.
		{two, api.Sel{}, ofText(1, 1), nil}, {two, api.Sel{Anchor: 6, Head: 7}, ofText(1, 1), nil}, {two, api.Sel{Kind: 4, Anchor: 6, Head: 7}, ofText(1, 1), list(0, 0, 3)}, {two, api.Sel{Kind: -1, Anchor: 8, Head: 8}, ofText(1, 1), nil}, {two, api.Sel{Kind: 1<<32 + 1, Anchor: 8, Head: 8}, ofText(1, 1), nil}, {quotes, api.Sel{Kind: 1<<32 + 2, Anchor: 5, Head: 6}, ofNode(0, 7), nil}, {``, api.Sel{Kind: 9}, ofAll(0), nil},
	} {
		n := built(t, s, x.line)
		if got := Over(s, n, x.x, x.m); got != x.want || !sel.Right(s, n, got) {
			t.Errorf("%q: %v over %v: %v, not %v", x.line, x.x, x.m, got, x.want)
		}
		if got := Through(s, n, x.x, routed(t, x.m)); got != x.want {
			t.Errorf("%q: %v through %v: %v, not %v", x.line, x.x, x.m, got, x.want)
		}
		if len(x.m) > 0 {
			continue
		}
		for _, r := range []*route.Route{nil, {}, routed(t, nil, nil, nil), routed(t).From(3)} {
			if got := Through(s, n, x.x, r); got != x.want {
				t.Errorf("%q: %v through no maps: %v, not %v", x.line, x.x, got, x.want)
			}
		}
	}
}

// P33.1: behind all maps of a route, in order; what one took, and its mirror brought back, is selected again.
func TestThrough(t *testing.T) {
	s := made(t)
	n := built(t, s, `<p "abcd > *hr <p "ef >`)
	there, back := list(2, 6, 0), list(2, 0, 6)
	var mirrored, within route.Route
	if mirrored.Add(there) != api.OK || mirrored.Mirror(back, 0) != api.OK || within.Add(there) != api.OK || within.Add(list(0, 0, 2)) != api.OK || within.Mirror(list(4, 0, 6), 0) != api.OK || within.Add(list(0, 2, 0)) != api.OK {
		t.Fatal("routes")
	}
	for _, x := range []struct {
		x, want api.Sel
		r       *route.Route
	}{
		{ofText(1, 2), ofText(1, 5), routed(t, list(2, 0, 1), list(3, 0, 2))}, {ofText(1, 4), ofText(8, 8), routed(t, list(2, 0, 1), list(4, 0, 2))}, {ofText(1, 4), ofText(1, 4), routed(t, list(4, 0, 2), list(2, 2, 0))}, {ofText(1, 4), ofText(1, 2), routed(t, list(2, 2, 0), list(3, 0, 2))},
		{ofNode(2, 3), ofNode(6, 7), routed(t, list(1, 0, 3), list(1, 0, 1))}, {ofNode(2, 3), ofText(9, 9), routed(t, list(1, 0, 3), list(5, 0, 4))}, {api.Sel{Kind: api.SelAll}, ofAll(11), routed(t, list(1, 0, 3), list(1, 0, 1))},
		{ofText(3, 4), ofText(3, 4), &mirrored}, {ofText(5, 3), ofText(5, 3), &mirrored}, {ofText(9, 2), ofText(9, 2), &mirrored}, {ofNode(6, 7), ofNode(6, 7), &mirrored}, {ofText(3, 8), ofText(3, 8), &mirrored},
		{ofText(3, 4), ofText(3, 4), &within}, {ofNode(6, 7), ofNode(6, 7), &within}, {ofText(9, 4), ofText(9, 4), &within},
		{ofText(3, 4), ofText(8, 8), routed(t, there, back)}, {ofText(1, 3), ofText(1, 8), routed(t, there, back)}, {ofNode(6, 7), ofText(8, 8), routed(t, there, back)},
	} {
		if got := Through(s, n, x.x, x.r); got != x.want {
			t.Errorf("%v: %v, not %v", x.x, got, x.want)
		}
	}
}

// P33.1: an end that can't go through comes to 0, the other one goes on; through no maps all can.
func TestFar(t *testing.T) {
	s := made(t)
	top, e := schema.New("node doc : (text|t)*\nnode t inline pick\n")
	if e != api.OK {
		t.Fatal(e)
	}
	p := built(t, s, `*hr <p "ab > *hr`)
	flat := built(t, top, `*t "ab`)
	for _, k := range far() {
		last, of := ofNode(5, 6), ofText(3, 3)
		if k < 0 {
			last, of = ofNode(0, 1), ofText(0, 0)
		}
		for i, x := range []struct {
			s              *schema.Schema
			n              *tree.Node
			x, none, empty api.Sel
		}{
			{s, p, ofText(k, k), last, ofNode(0, 1)}, {s, p, ofText(2, k), last, ofNode(0, 1)}, {s, p, ofText(k, 3), ofText(3, 3), ofText(3, 3)}, {s, p, ofNode(k, 1), last, ofNode(0, 1)}, {s, p, ofNode(5, k), ofNode(5, 6), ofNode(5, 6)},
			{top, flat, ofText(k, k), of, ofText(0, 0)}, {top, flat, ofText(2, k), of, ofText(2, 0)}, {top, flat, ofText(k, 2), ofText(2, 2), ofText(0, 2)}, {top, flat, ofNode(k, 1), of, ofNode(0, 1)},
			{s, p, api.Sel{Kind: api.SelAll, Anchor: k, Head: k}, ofAll(6), ofAll(6)}, {s, p, api.Sel{Kind: 9, Anchor: k, Head: k}, ofNode(0, 1), ofNode(0, 1)}, {s, p, api.Sel{Kind: k, Anchor: 5, Head: 5}, ofNode(0, 1), ofNode(0, 1)},
		} {
			for _, r := range []*route.Route{nil, {}} {
				if got := Through(x.s, x.n, x.x, r); got != x.none {
					t.Errorf("%d: %v through no maps: %v, not %v", i, x.x, got, x.none)
				}
			}
			for _, m := range [][]api.Range{nil, {}, list(9, 0, 0), list(6, 1, 1)} {
				if got := Over(x.s, x.n, x.x, m); got != x.empty {
					t.Errorf("%d: %v over %v: %v, not %v", i, x.x, m, got, x.empty)
				}
				if got := Through(x.s, x.n, x.x, routed(t, m, nil)); got != x.empty {
					t.Errorf("%d: %v through %v: %v, not %v", i, x.x, m, got, x.empty)
				}
			}
		}
	}
	// It comes to 0 behind all maps, not ahead of those that are left.
	if got := Through(s, p, ofText(3, most), routed(t, list(0, 0, 1), nil, list(0, 0, 3))); got != ofNode(0, 1) {
		t.Error(got)
	}
	if got := Through(s, p, ofText(3, -1), routed(t, list(0, 0, 3))); got != ofNode(0, 1) {
		t.Error(got)
	}
}

// P33.1: over a map that isn't right as of no maps.
func TestWrongMaps(t *testing.T) {
	s := made(t)
	n := built(t, s, `<p "abcd > *hr <p "ef >`)
	many := make([]api.Range, 1001)
	for i := range many {
		many[i] = api.Range{At: 2 * i, New: 1}
	}
	wrong := [][]api.Range{list(0, 0, 1, 0, 0, 1), list(0, 2, 0, 2, 0, 1), list(3, 0, 0, 1, 0, 0), many}
	for _, k := range []int{least, -1, 1<<30 + 1, great} {
		wrong = append(wrong, list(k, 0, 1), list(0, k, 1), list(0, 1, k), list(0, 0, 1, k, 0, 1))
	}
	for _, m := range wrong {
		for _, x := range []api.Sel{ofText(1, 4), ofText(9, 2), ofNode(6, 7), ofAll(11), ofText(3, 6), ofText(6, 3), ofNode(2, 3), ofText(3, 1<<50), ofText(2, least), ofNode(great, 0), {}, {Kind: 7, Anchor: 6}} {
			want := Through(s, n, x, nil)
			if got := Over(s, n, x, m); got != want {
				t.Errorf("%v over %.50v: %v, not %v", x, m, got, want)
			}
		}
	}
	if got := Over(s, n, ofText(3, 1<<50), many); got != ofText(10, 10) {
		t.Error(got)
	}
	if got := Over(s, n, ofText(1, 2), many[:1000]); got != ofText(2, 4) {
		t.Error(got)
	}
}

// P33.1: of nil zero selections.
func TestNone(t *testing.T) {
	s := made(t)
	n := built(t, s, `<p "ab > *hr`)
	for _, x := range []api.Sel{{}, ofText(1, 2), ofText(9, 9), ofNode(4, 5), ofNode(1, 2), ofAll(5), {Kind: 4}} {
		for _, m := range [][]api.Range{nil, list(1, 0, 2), list(-1, 0, 0)} {
			var r route.Route
			r.Add(m)
			for _, r := range []*route.Route{nil, &r} {
				for _, got := range []api.Sel{Through(nil, n, x, r), Through(s, nil, x, r), Through(nil, nil, x, r), Over(nil, n, x, m), Over(s, nil, x, m), Over(nil, nil, x, m)} {
					if got != (api.Sel{}) {
						t.Error(x, m, got)
					}
				}
			}
			if got := Over(s, n, x, m); got == (api.Sel{}) {
				t.Error(x, m)
			}
		}
	}
}

// P33.2: one that is valid comes, through no maps, to itself.
func TestSame(t *testing.T) {
	s := made(t)
	for _, line := range []string{``, `<p >`, `*hr`, `<wall <wall > >`, `<quote <p "a *t b"b > <h *t > > *hr <quote *hr <wall > >`, `"a *t <p "b <p "c > <wall > *hr > "d`} {
		n := built(t, s, line)
		valid := 0
		for kind := -1; kind < 5; kind++ {
			for anchor := -1; anchor < n.Size(); anchor++ {
				for head := -1; head < n.Size(); head++ {
					x := api.Sel{Kind: kind, Anchor: anchor, Head: head}
					y := Through(s, n, x, nil)
					if sel.Right(s, n, x) {
						valid++
						if y != x || Over(s, n, x, nil) != x || Through(s, n, x, &route.Route{}) != x {
							t.Errorf("%q: %v is %v", line, x, y)
						}
					}
					if !sel.Right(s, n, y) {
						t.Errorf("%q: %v comes to %v", line, x, y)
					}
				}
			}
		}
		if valid == 0 {
			t.Errorf("%q: none is valid", line)
		}
	}
}

// P33.1, P33.2: documents that are deep or great, through many maps.
func TestGreat(t *testing.T) {
	s := made(t)
	open := func(typ int, kids ...*tree.Node) *tree.Node {
		return tree.Make(api.Token{Kind: api.Open, Type: typ}, kids...)
	}
	letter := tree.Make(api.Token{Kind: api.Char, Rune: 'x'})
	n := open(3, letter)
	for range 300 {
		n = open(8, n)
	}
	n = open(1, n)
	if x, y := Over(s, n, ofText(0, 0), nil), Over(s, n, ofNode(301, 0), list(0, 0, 5)); x != ofText(301, 301) || y != ofText(302, 302) {
		t.Error(x, y)
	}
	n = open(1, open(3, slices.Repeat([]*tree.Node{letter}, 20000)...))
	var r route.Route
	for range 5000 {
		if e := r.Add(list(1, 0, 3)); e != api.OK {
			t.Fatal(e)
		}
	}
	if x := Through(s, n, ofText(2, 1), &r); x != ofText(15002, 15001) {
		t.Error(x)
	}
	if x := Through(s, n, ofText(1, 9000), &r); x != ofText(20001, 20001) {
		t.Error(x)
	}
}

// P3, P6: maps and routes stay as they are, spare room too, and nothing is kept.
func TestStays(t *testing.T) {
	s := made(t)
	n := built(t, s, `<p "abcd > *hr <p "ef >`)
	room := list(2, 1, 0, 4, 0, 2, 7, 7, 7)
	was := slices.Clone(room)
	r := routed(t, room[:1], room[1:2])
	r.Mirror(smap.Invert(room[1:2]), 1)
	for range 3 {
		for _, x := range []struct{ x, over, through api.Sel }{{ofText(1, 5), ofNode(6, 7), ofText(1, 4)}, {ofText(3, 1), ofText(2, 1), ofText(2, 1)}, {ofNode(7, 8), ofText(8, 8), ofNode(6, 7)}, {ofAll(2), ofAll(11), ofAll(11)}} {
			if a, b := Over(s, n, x.x, room[:2]), Through(s, n, x.x, r); a != x.over || b != x.through {
				t.Error(x.x, a, b)
			}
		}
		if !slices.Equal(room, was) || r.Len() != 3 {
			t.Fatal(room, r.Len())
		}
	}
}
