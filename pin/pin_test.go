package pin

import (
	"slices"
	"testing"

	"stet/api"
	"stet/follow"
	"stet/route"
	"stet/schema"
	"stet/sel"
	"stet/smap"
	"stet/token"
	"stet/tree"
)

const (
	least = -1 << 63
	most  = 1 << 40
	great = 1<<63 - 1
)

// made is the schema that the tests know: doc is 1, quote 2, p 3, h 4, hr 5, t 6, wall 7. A quote, an hr, and a t may be selected.
func made(t testing.TB) *schema.Schema {
	t.Helper()
	s, e := schema.New("mark b\nnode doc : block*\nnode quote group=block pick : block*\nnode p group=block marks=* : (text|t)*\nnode h group=block : t*\nnode hr group=block pick\nnode t inline pick\nnode wall group=block : wall*\n")
	if e != api.OK {
		t.Fatal(e)
	}
	return s
}

// built is a line's tree.
func built(t testing.TB, s *schema.Schema, line string) *tree.Node {
	t.Helper()
	l, at, e := token.Parse(s, line)
	if e != api.OK {
		t.Fatal(line, at, e)
	}
	n, e := tree.Build(s, l)
	if e != api.OK {
		t.Fatal(line, e)
	}
	return n
}

func ofText(anchor, head int) api.Sel {
	return api.Sel{Kind: api.SelText, Anchor: anchor, Head: head}
}

func ofNode(anchor, head int) api.Sel {
	return api.Sel{Kind: api.SelNode, Anchor: anchor, Head: head}
}

func ofAll(head int) api.Sel { return api.Sel{Kind: api.SelAll, Head: head} }

// list is a map of numbers, three for each range.
func list(numbers ...int) []api.Range {
	var m []api.Range
	for i := 0; i < len(numbers); i += 3 {
		m = append(m, api.Range{At: numbers[i], Old: numbers[i+1], New: numbers[i+2]})
	}
	return m
}

// routed is a route of maps, none of which mirrors another one.
func routed(t testing.TB, maps ...[]api.Range) *route.Route {
	t.Helper()
	var r route.Route
	for _, m := range maps {
		if e := r.Add(m); e != api.OK {
			t.Fatal(m, e)
		}
	}
	return &r
}

// odd are numbers of any size.
func odd() []int {
	return []int{least, least + 1, -1 << 32, -2, -1, 0, 1, 4, 1 << 31, 1<<32 + 1, 1<<32 + 2, 1<<32 + 3, most, most + 1, great - 1, great}
}

// P34.1: the example, and pins of each kind.
func TestOf(t *testing.T) {
	if p := Of(ofText(1, 3)); p != (Pin{1, 1, 3}) {
		t.Error(p)
	}
	for _, a := range odd() {
		for _, b := range odd() {
			if p := Of(ofText(a, b)); p != (Pin{Kind: api.SelText, A: a, B: b}) {
				t.Error(p)
			}
			if p := Of(ofNode(a, b)); p != (Pin{Kind: api.SelNode, A: a}) {
				t.Error(p)
			}
			if p := Of(api.Sel{Kind: api.SelAll, Anchor: a, Head: b}); p != (Pin{Kind: api.SelAll}) {
				t.Error(p)
			}
			for _, kind := range odd() {
				if kind >= api.SelText && kind <= api.SelAll {
					continue
				}
				if p := Of(api.Sel{Kind: kind, Anchor: a, Head: b}); p != (Pin{}) {
					t.Error(kind, p)
				}
			}
		}
	}
}

// P34.1: the ends of text, and the place of a node, go on the right side; nothing else does.
func TestThrough(t *testing.T) {
	text := func(a, b int) Pin { return Pin{Kind: api.SelText, A: a, B: b} }
	node := func(a int) Pin { return Pin{Kind: api.SelNode, A: a} }
	all := Pin{Kind: api.SelAll}
	for _, x := range []struct {
		p, want Pin
		maps    [][]api.Range
	}{
		{text(1, 4), text(1, 6), [][]api.Range{list(1, 1, 3)}}, {text(4, 1), text(6, 1), [][]api.Range{list(1, 1, 3)}}, {text(1, 1), text(3, 3), [][]api.Range{list(1, 0, 2)}}, {text(2, 1), text(4, 3), [][]api.Range{list(1, 0, 2)}}, {text(3, 5), text(2, 2), [][]api.Range{list(2, 3, 0)}}, {text(3, 4), text(4, 4), [][]api.Range{list(2, 3, 2)}}, {text(2, 5), text(2, 4), [][]api.Range{list(2, 3, 2)}}, {text(0, 0), text(7, 7), [][]api.Range{list(0, 0, 7)}},
		{text(1, 4), text(1, 9), [][]api.Range{list(2, 0, 1), list(5, 0, 4)}}, {text(1, 4), text(2, 8), [][]api.Range{list(4, 0, 3), list(0, 0, 1)}}, {text(5, 2), text(5, 2), [][]api.Range{nil, list(9, 2, 0), list(5, 1, 1)}},
		{node(5), node(7), [][]api.Range{list(5, 0, 2)}}, {node(5), node(5), [][]api.Range{list(5, 1, 2)}}, {node(5), node(3), [][]api.Range{list(3, 4, 0)}}, {node(0), node(2), [][]api.Range{list(0, 0, 2)}}, {node(0), node(6), [][]api.Range{list(0, 0, 2), list(1, 0, 4)}}, {node(9), node(9), [][]api.Range{nil}},
		{all, all, [][]api.Range{list(0, 0, 2)}}, {all, all, [][]api.Range{nil, list(0, 9, 3)}}, {Pin{}, Pin{}, [][]api.Range{list(0, 0, 2)}}, {Pin{}, Pin{}, [][]api.Range{nil}},
		{text(3, 8), text(3, 8), nil}, {node(3), node(3), nil}, {all, all, nil}, {Pin{}, Pin{}, nil}, {text(-4, great), text(-4, great), nil}, {node(least), node(least), nil},
		// What can't go through comes to 0, behind all maps.
		{text(-1, 3), text(0, 4), [][]api.Range{list(0, 0, 1)}}, {text(3, most+1), text(4, 0), [][]api.Range{list(0, 0, 1)}}, {text(3, most), text(7, 0), [][]api.Range{list(0, 0, 1), list(0, 0, 3)}}, {text(most, 0), text(most+1, 1), [][]api.Range{list(0, 0, 1)}}, {text(least, great), text(0, 0), [][]api.Range{nil}}, {node(-1), node(0), [][]api.Range{list(0, 0, 1)}}, {node(great), node(0), [][]api.Range{nil}}, {node(most), node(most), [][]api.Range{nil}}, {node(most), node(0), [][]api.Range{list(1, 0, 1), nil}},
	} {
		r := routed(t, x.maps...)
		if p := x.p.Through(r); p != x.want {
			t.Errorf("%v through %v: %v, not %v", x.p, x.maps, p, x.want)
		}
		if p := x.p.By(r.Tell); p != x.want {
			t.Errorf("%v by %v: %v, not %v", x.p, x.maps, p, x.want)
		}
		if p, q := x.p.Through(nil), x.p.By(nil); p != x.p || q != x.p {
			t.Errorf("%v through nil: %v, %v", x.p, p, q)
		}
	}
}

// P34.1: of nil, and of no maps, a pin is as it is.
func TestAsItIs(t *testing.T) {
	for _, a := range odd() {
		for _, b := range odd() {
			for _, x := range []api.Sel{ofText(a, b), ofNode(a, b), ofAll(b), {Kind: 4, Anchor: a, Head: b}} {
				p := Of(x)
				for i, q := range []Pin{p.Through(nil), p.By(nil), p.Through(&route.Route{}), p.Through(routed(t, nil).From(1))} {
					if q != p {
						t.Error(i, p, q)
					}
				}
			}
		}
	}
}

// P34.1: what isn't told of a kind is 0 behind maps, whatever it was in a pin that no call made; through nil that is as it is.
func TestAllElse(t *testing.T) {
	for p, want := range map[Pin]Pin{{2, 5, 7}: {2, 6, 0}, {2, -1, 7}: {2, 0, 0}, {3, 5, 7}: {3, 0, 0}, {9, 5, 7}: {9, 0, 0}, {0, 5, 7}: {}} {
		r := routed(t, list(0, 0, 1))
		if q := p.Through(r); q != want || p.By(r.Tell) != want || p.Through(nil) != p || p.By(nil) != p {
			t.Error(p, q)
		}
	}
}

// P34.1: what one map took, and its mirror brings back, is pinned still.
func TestMirrors(t *testing.T) {
	r := routed(t, list(2, 5, 0), list(1, 0, 3))
	if e := r.Mirror(list(5, 0, 5), 0); e != api.OK {
		t.Fatal(e)
	}
	for _, x := range []struct{ p, want Pin }{{Pin{1, 3, 6}, Pin{1, 6, 9}}, {Pin{1, 6, 1}, Pin{1, 9, 4}}, {Pin{2, 4, 0}, Pin{2, 7, 0}}, {Pin{2, 7, 0}, Pin{2, 10, 0}}, {Pin{3, 0, 0}, Pin{3, 0, 0}}} {
		p := x.p.Through(r)
		back := p.Through(routed(t, list(1, 3, 0)))
		if p != x.want || back != x.p {
			t.Error(x.p, p, back)
		}
	}
}

// P34.1: a function is asked for the ends alone, on the right side; beside an error what it tells isn't taken.
func TestBy(t *testing.T) {
	for _, x := range []struct {
		x     api.Sel
		want  Pin
		asked []int
	}{
		{ofText(3, 5), Pin{1, 30, 50}, []int{3, 5}}, {ofText(5, 3), Pin{1, 50, 30}, []int{5, 3}}, {ofText(4, 4), Pin{1, 40, 40}, []int{4, 4}}, {ofNode(3, 5), Pin{2, 30, 0}, []int{3}}, {ofAll(5), Pin{3, 0, 0}, nil}, {api.Sel{}, Pin{}, nil}, {api.Sel{Kind: 4, Anchor: 3, Head: 5}, Pin{}, nil},
		{ofText(7, 3), Pin{1, 0, 30}, []int{7, 3}}, {ofText(3, 7), Pin{1, 30, 0}, []int{3, 7}}, {ofNode(7, 3), Pin{2, 0, 0}, []int{7}}, {ofText(-2, -3), Pin{1, -20, -30}, []int{-2, -3}}, {ofText(0, 0), Pin{1, 99, 99}, []int{0, 0}}, {ofNode(0, 0), Pin{2, 99, 0}, []int{0}},
	} {
		var asked []int
		p := Of(x.x).By(func(position, side int) (smap.Place, api.Errno) {
			if side < 0 {
				t.Error(x.x, side)
			}
			asked = append(asked, position)
			switch position {
			case 0:
				return smap.Place{Position: 99, Gone: true, Inside: true, Range: 4, Offset: 5}, api.OK
			case 7:
				return smap.Place{Position: 77}, api.ErrRange
			}
			return smap.Place{Position: 10 * position}, api.OK
		})
		slices.Sort(asked)
		slices.Sort(x.asked)
		if p != x.want || !slices.Equal(slices.Compact(asked), slices.Compact(x.asked)) {
			t.Error(x.x, p, asked)
		}
	}
}

// P34.2: what pins are resolved to.
func TestResolve(t *testing.T) {
	s := made(t)
	const (
		two    = `<p "abcd > *hr <p "ef >` // 0 to 11: abcd at 1 to 5, hr at 6, ef at 8 to 10
		walls  = `<p "ab > <wall > <h *t *t >`
		quotes = `<quote <p "a *t > *hr > <p "b >` // 0 to 10: a at 2, t at 3, hr at 5, b at 8
	)
	for _, x := range []struct {
		line string
		p    Pin
		want api.Sel
	}{
		{two, Pin{1, 1, 3}, ofText(1, 3)}, {two, Pin{1, 9, 2}, ofText(9, 2)}, {two, Pin{1, 5, 5}, ofText(5, 5)}, {two, Pin{1, 0, 3}, ofText(3, 3)}, {two, Pin{1, 3, 0}, ofText(1, 1)}, {two, Pin{1, 3, 6}, ofNode(6, 7)}, {two, Pin{1, 6, 3}, ofText(3, 3)}, {two, Pin{1, 6, 7}, ofText(8, 8)}, {two, Pin{1, 3, 11}, ofText(10, 10)}, {two, Pin{1, 3, great}, ofText(10, 10)}, {two, Pin{1, 3, least}, ofText(1, 1)}, {two, Pin{1, great, 3}, ofText(3, 3)}, {two, Pin{1, -1, 9}, ofText(9, 9)},
		{walls, Pin{1, 1, 5}, ofText(7, 7)}, {walls, Pin{1, 5, 2}, ofText(2, 2)}, {``, Pin{1, 0, 0}, ofAll(0)}, {`<wall >`, Pin{1, 1, 1}, ofAll(2)}, {`*hr <wall >`, Pin{1, 2, 2}, ofNode(0, 1)},
		{two, Pin{2, 6, 0}, ofNode(6, 7)}, {two, Pin{2, 5, 0}, ofText(5, 5)}, {two, Pin{2, 7, 0}, ofText(8, 8)}, {two, Pin{2, 0, 0}, ofText(1, 1)}, {two, Pin{2, 11, 0}, ofText(10, 10)}, {two, Pin{2, least, 0}, ofText(1, 1)}, {two, Pin{2, great, 0}, ofText(10, 10)},
		{quotes, Pin{2, 0, 0}, ofNode(0, 7)}, {quotes, Pin{2, 3, 0}, ofNode(3, 4)}, {quotes, Pin{2, 2, 0}, ofText(2, 2)}, {quotes, Pin{2, 5, 0}, ofNode(5, 6)}, {walls, Pin{2, 8, 0}, ofNode(8, 9)}, {walls, Pin{2, 9, 0}, ofText(9, 9)}, {``, Pin{2, 0, 0}, ofAll(0)}, {`<wall >`, Pin{2, 0, 0}, ofAll(2)},
		{two, Pin{3, 0, 0}, ofAll(11)}, {``, Pin{3, 0, 0}, ofAll(0)}, {`<wall >`, Pin{3, 0, 0}, ofAll(2)},
		{two, Pin{}, ofText(1, 1)}, {quotes, Pin{}, ofNode(0, 7)}, {``, Pin{}, ofAll(0)}, {two, Pin{4, 6, 6}, ofText(1, 1)}, {two, Pin{-1, 6, 6}, ofText(1, 1)}, {two, Pin{1<<32 + 1, 9, 9}, ofText(1, 1)}, {two, Pin{1<<32 + 2, 6, 0}, ofText(1, 1)}, {two, Pin{1<<32 + 3, 0, 0}, ofText(1, 1)},
	} {
		n := built(t, s, x.line)
		if got := x.p.Resolve(s, n); got != x.want || !sel.Right(s, n, got) {
			t.Errorf("%v in %q: %v, not %v", x.p, x.line, got, x.want)
		}
		for _, got := range []api.Sel{x.p.Resolve(nil, n), x.p.Resolve(s, nil), x.p.Resolve(nil, nil)} {
			if got != (api.Sel{}) {
				t.Errorf("%v of nil: %v", x.p, got)
			}
		}
	}
}

// P34.3: a pin of a selection that is valid is resolved to it; one of another selection to what that comes to through no maps.
func TestThereAndBack(t *testing.T) {
	s := made(t)
	for _, line := range []string{``, `<p >`, `*hr`, `<wall <wall > >`, `<quote <p "a *t b"b > <h *t > > *hr <quote *hr <wall > >`} {
		n := built(t, s, line)
		valid := 0
		for kind := -1; kind < 5; kind++ {
			for anchor := -1; anchor < n.Size(); anchor++ {
				for head := -1; head < n.Size(); head++ {
					x := api.Sel{Kind: kind, Anchor: anchor, Head: head}
					y := Of(x).Resolve(s, n)
					if sel.Right(s, n, x) {
						valid++
						if y != x {
							t.Errorf("%q: %v is %v", line, x, y)
						}
					}
					if y != follow.Through(s, n, x, nil) || !sel.Right(s, n, y) {
						t.Errorf("%q: %v comes to %v", line, x, y)
					}
				}
			}
		}
		if valid == 0 {
			t.Errorf("%q: none is valid", line)
		}
	}
}

// P3, P4, P6: what is done with a pin changes no other one, nor a route; pins are the same just if they hold the same.
func TestStays(t *testing.T) {
	s := made(t)
	n := built(t, s, `<p "abcd > *hr`)
	r := routed(t, list(2, 1, 0), list(0, 0, 2))
	p := Of(ofText(1, 4))
	other := p
	for range 3 {
		if q := p.Through(r); q != (Pin{1, 3, 5}) || p.By(r.Tell) != q || p.Resolve(s, n) != ofText(1, 4) || q.Resolve(s, n) != ofText(3, 5) || p != other || r.Len() != 2 {
			t.Fatal(p, q, r.Len())
		}
	}
	other.A++
	if p != (Pin{1, 1, 4}) || p == other {
		t.Error(p, other)
	}
	set := map[Pin]int{}
	for kind := range 4 {
		for a := range 3 {
			for b := range 3 {
				set[Pin{kind, a, b}]++
				set[Of(api.Sel{Kind: kind, Anchor: a, Head: b})]++
			}
		}
	}
	if len(set) != 36 || set[Pin{2, 1, 0}] != 4 || set[Pin{1, 1, 2}] != 2 || set[Pin{3, 0, 0}] != 10 || set[Pin{3, 1, 0}] != 1 {
		t.Error(set)
	}
}
