package chain

import (
	"slices"
	"testing"

	"stet/api"
	"stet/pin"
	"stet/step"
	"stet/token"
)

const (
	least    = -1 << 63
	great    = 1<<63 - 1
	most     = 1 << 30
	farthest = 1 << 40
)

// list is a map of numbers, three for each range.
func list(numbers ...int) []api.Range {
	var m []api.Range
	for i := 0; i < len(numbers); i += 3 {
		m = append(m, api.Range{At: numbers[i], Old: numbers[i+1], New: numbers[i+2]})
	}
	return m
}

// splice is a splice of so many closes.
func splice(from, to, n int) api.Step {
	return api.Step{Kind: api.Splice, From: from, To: to, Slice: make([]api.Token, n)}
}

// around is an around of two tokens, one ahead and one behind.
func around(from, gapFrom, gapTo, to int) api.Step {
	return api.Step{Kind: api.Around, From: from, To: to, GapFrom: gapFrom, GapTo: gapTo, Insert: 1, Slice: make([]api.Token, 2)}
}

// mark is a mark added.
func mark(from, to int) api.Step {
	return api.Step{Kind: api.AddMark, From: from, To: to, Mark: 3, Value: 4}
}

// remark is a remark of sets that are told apart.
func remark(from, to int) api.Step {
	x := api.Step{Kind: api.Remark, From: from, To: to}
	for i := range to - from {
		x.Sets = append(x.Sets, api.Marks{uint16(i + 1)})
	}
	return x
}

// text is a pin of text.
func text(a, b int) pin.Pin { return pin.Pin{Kind: api.SelText, A: a, B: b} }

// many are more tokens than a step may have.
var many = make([]api.Token, api.MaxSize+1)

// wrongs are steps whose shape isn't right.
func wrongs() []api.Step {
	return []api.Step{{}, {Kind: 6}, splice(3, 2, 0), splice(-1, 2, 0), splice(0, most+1, 0), {Kind: api.Splice, Slice: many}, around(3, 2, 5, 6), around(3, 5, 4, 6), mark(5, 4), {Kind: api.Remark, To: 1}, {Kind: api.Splice, To: 1, Mark: 1}}
}

// wrongMaps are maps that aren't right.
func wrongMaps() [][]api.Range {
	return [][]api.Range{list(-1, 0, 0), list(0, -1, 0), list(0, 0, -1), list(most+1, 0, 0), list(0, most+1, 0), list(0, 0, most+1), list(5, 1, 0, 6, 0, 0), list(9, 0, 0, 7, 0, 0), list(great, great, great), list(least, 0, 0), make([]api.Range, 1001)}
}

// P35.1: the example, and what steps, pins and what was lost come to.
func TestOver(t *testing.T) {
	for i, x := range []struct {
		l    []Group
		m    []api.Range
		want []Group
	}{
		{[]Group{{Steps: []api.Step{splice(1, 3, 0)}}, {Steps: []api.Step{splice(1, 2, 0)}}}, list(0, 0, 5), []Group{{Steps: []api.Step{splice(6, 8, 0)}}, {Steps: []api.Step{splice(6, 7, 0)}}}},
		// Back goes by the map alone, Pin by the inverse, the map, and the one of what the step came to.
		{[]Group{{Steps: []api.Step{splice(4, 6, 3)}, Back: text(5, 6), Pin: text(5, 7)}}, list(5, 0, 2), []Group{{Steps: []api.Step{splice(4, 8, 3)}, Back: text(7, 8), Pin: text(5, 7)}}},
		// What the step ahead puts in stands in the map alone, by which it is found again.
		{[]Group{{Steps: []api.Step{splice(4, 6, 3), splice(5, 7, 1)}}}, list(5, 0, 2), []Group{{Steps: []api.Step{splice(4, 8, 3), splice(5, 7, 1)}}}},
		{[]Group{{Steps: []api.Step{splice(4, 4, 1)}, Pin: text(5, 5)}, {Steps: []api.Step{splice(4, 5, 0)}, Back: text(4, 5), Pin: text(4, 4)}, {Steps: []api.Step{splice(3, 5, 0)}, Back: text(4, 4), Pin: text(3, 3)}}, list(1, 0, 2), []Group{{Steps: []api.Step{splice(6, 6, 1)}, Pin: text(7, 7)}, {Steps: []api.Step{splice(6, 7, 0)}, Back: text(6, 7), Pin: text(6, 6)}, {Steps: []api.Step{splice(5, 7, 0)}, Back: text(6, 6), Pin: text(5, 5)}}},
		// Behind one that is lost what it put in is gone, and what it took is there still.
		{[]Group{{Steps: []api.Step{splice(5, 7, 1), splice(13, 14, 2)}, Lost: 7}}, list(4, 9, 0), []Group{{Steps: []api.Step{splice(5, 6, 2)}, Lost: 8}}},
		{[]Group{{Steps: []api.Step{splice(5, 7, 1), splice(5, 6, 0)}}}, list(4, 9, 0), []Group{{Lost: 2}}},
		{[]Group{{Steps: []api.Step{splice(5, 7, 4)}, Back: text(3, 20), Pin: text(6, 22)}, {Steps: []api.Step{splice(20, 22, 1)}, Back: text(6, 22), Pin: text(3, 21)}}, list(4, 9, 0), []Group{{Back: text(3, 11), Pin: text(4, 11), Lost: 1}, {Steps: []api.Step{splice(9, 11, 1)}, Back: text(4, 11), Pin: text(3, 10)}}},
		// Each kind of step turns what is behind it by its map.
		{[]Group{{Steps: []api.Step{around(2, 3, 7, 8), splice(2, 3, 1), splice(7, 8, 1), splice(9, 9, 1)}}}, list(5, 1, 4), []Group{{Steps: []api.Step{around(2, 3, 10, 11), splice(2, 3, 1), splice(10, 11, 1), splice(12, 12, 1)}}}},
		{[]Group{{Steps: []api.Step{mark(3, 6), remark(2, 4), splice(4, 5, 0)}, Pin: text(6, 2)}}, list(1, 0, 2), []Group{{Steps: []api.Step{mark(5, 8), remark(4, 6), splice(6, 7, 0)}, Pin: text(8, 4)}}},
		{[]Group{{Steps: []api.Step{mark(3, 6), remark(2, 4), splice(6, 7, 0)}, Pin: text(6, 1)}}, list(3, 3, 0), []Group{{Steps: []api.Step{splice(3, 4, 0)}, Pin: text(3, 1), Lost: 2}}},
		// What is recovered behind a mirror goes on from there, whatever stands between.
		{[]Group{{Steps: []api.Step{splice(3, 3, 5), splice(0, 0, 2), splice(6, 8, 0)}, Pin: text(6, 7)}}, list(3, 0, 9), []Group{{Steps: []api.Step{splice(12, 12, 5), splice(0, 0, 2), splice(15, 17, 0)}, Pin: text(15, 16)}}},
		// A mark from a position to itself is lost over any map that is right.
		{[]Group{{Steps: []api.Step{mark(3, 3)}}, {Lost: 2}}, nil, []Group{{Lost: 1}, {Lost: 2}}},
		// Pins of each kind, and of none.
		{[]Group{{Pin: pin.Pin{Kind: 2, A: 5}, Back: pin.Pin{Kind: 3}}, {Pin: pin.Pin{Kind: 4, A: 5, B: 6}}, {}}, list(5, 0, 3), []Group{{Pin: pin.Pin{Kind: 2, A: 8}, Back: pin.Pin{Kind: 3}}, {Pin: pin.Pin{Kind: 4}}, {}}},
		{[]Group{{Steps: []api.Step{splice(9, 9, 1)}, Pin: text(-1, farthest), Back: text(farthest, -1)}}, list(5, 1, 0), []Group{{Steps: []api.Step{splice(8, 8, 1)}, Pin: text(0, farthest-1), Back: text(farthest-1, 0)}}},
		{[]Group{{Steps: []api.Step{splice(9, 10, 0)}, Pin: text(farthest, farthest+1), Back: text(farthest+1, great)}}, list(5, 1, 0), []Group{{Steps: []api.Step{splice(8, 9, 0)}, Pin: text(0, 0), Back: text(0, 0)}}},
		{nil, list(5, 1, 0), nil}, {[]Group{}, nil, nil}, {[]Group{{}}, list(5, 1, 0), []Group{{}}},
	} {
		if got := Over(x.l, x.m); !Same(got, x.want) {
			t.Errorf("%d: %+v over %v: %+v, not %+v", i, x.l, x.m, got, x.want)
		}
	}
}

// P35.1: an inverse that isn't right is left out, and mirrored by nothing.
func TestLeftOut(t *testing.T) {
	far := around(0, 0, most, most)
	for i, x := range []struct {
		m    []api.Range
		want Group
	}{
		{list(5, 1, 0), Group{Steps: []api.Step{around(0, 0, most-1, most-1), splice(4, 5, 1), splice(8, 9, 0)}, Pin: text(8, 3)}},
		{list(5, 0, 1), Group{Steps: []api.Step{splice(3, 4, 1), splice(9, 10, 0)}, Pin: text(9, 2), Lost: 1}},
	} {
		l := []Group{{Steps: []api.Step{far, splice(3, 4, 1), splice(8, 9, 0)}, Pin: text(8, 2)}}
		if got := Over(l, x.m); !Same(got, []Group{x.want}) {
			t.Errorf("%d: %+v, not %+v", i, got, x.want)
		}
	}
}

// P35.1: steps whose shape isn't right are lost, and turn no maps.
func TestWrongSteps(t *testing.T) {
	for i, x := range wrongs() {
		if step.Shape(x) {
			t.Error(i, x)
		}
		l := []Group{{Steps: []api.Step{x, splice(4, 6, 3), x, splice(5, 7, 1)}, Pin: text(5, 9), Back: text(5, 6)}, {Steps: []api.Step{x}, Lost: 4}}
		want := []Group{{Steps: []api.Step{splice(4, 8, 3), splice(5, 7, 1)}, Pin: text(5, 10), Back: text(7, 8), Lost: 2}, {Lost: 5}}
		l[0].Pin.B, want[0].Pin.B = 8, 10
		if got := Over(l, list(5, 0, 2, 7, 0, 2)); !Same(got, want) {
			t.Errorf("%d: %+v, not %+v", i, got, want)
		}
	}
}

// P35.1: over a map that isn't right a chain is as it is, whatever it has.
func TestWrongMaps(t *testing.T) {
	l := []Group{{Steps: append(wrongs(), splice(4, 6, 3), mark(3, 3), remark(2, 4)), Pin: text(-5, great), Back: pin.Pin{Kind: 9, A: 1}, Lost: -3}, {}, {Lost: great}}
	for i, m := range wrongMaps() {
		if got := Over(l, m); !Same(got, l) {
			t.Errorf("%d: %+v", i, got)
		}
		if got := Over(nil, m); len(got) != 0 {
			t.Error(i, got)
		}
	}
	if got := Over(l, nil); Same(got, l) || got[0].Lost != len(wrongs())-2 || Steps(got) != 2 {
		t.Error(got)
	}
}

// P35.1: how many steps all groups have.
func TestSteps(t *testing.T) {
	for want, l := range [][]Group{nil, {{}, {Steps: make([]api.Step, 1)}, {}}, {{Steps: make([]api.Step, 2), Lost: 5}}, {{Steps: make([]api.Step, 1)}, {Lost: 1}, {Steps: make([]api.Step, 2)}}} {
		if n := Steps(l); n != want {
			t.Error(n, want)
		}
	}
	if n := Steps([]Group{{}, {}}); n != 0 {
		t.Error(n)
	}
}

// full is a chain in which all is told.
func full() []Group {
	return []Group{
		{Steps: []api.Step{{Kind: api.Splice, From: 1, To: 3, Slice: token.Text('a', 'b')}, remark(4, 6)}, Pin: text(1, 2), Back: pin.Pin{Kind: 2, A: 4}, Lost: 3},
		{Steps: []api.Step{around(2, 3, 5, 7), mark(1, 2)}, Pin: pin.Pin{Kind: 3}, Lost: 1},
	}
}

// P35.1: chains are the same just if all of them is.
func TestSame(t *testing.T) {
	for i, change := range []func(l []Group) []Group{
		func(l []Group) []Group { return l[:1] },
		func(l []Group) []Group { return append(l, Group{}) },
		func(l []Group) []Group { return []Group{l[1], l[0]} },
		func(l []Group) []Group { return nil },
		func(l []Group) []Group { l[0].Pin.Kind = 2; return l },
		func(l []Group) []Group { l[0].Pin.A++; return l },
		func(l []Group) []Group { l[0].Pin.B++; return l },
		func(l []Group) []Group { l[1].Back.Kind = 1; return l },
		func(l []Group) []Group { l[0].Back.A++; return l },
		func(l []Group) []Group { l[0].Back.B++; return l },
		func(l []Group) []Group { l[0].Back, l[0].Pin = l[0].Pin, l[0].Back; return l },
		func(l []Group) []Group { l[1].Lost++; return l },
		func(l []Group) []Group { l[0].Lost -= 4; return l },
		func(l []Group) []Group { l[0].Steps = l[0].Steps[:1]; return l },
		func(l []Group) []Group { l[1].Steps = nil; return l },
		func(l []Group) []Group { l[1].Steps = append(l[1].Steps, api.Step{}); return l },
		func(l []Group) []Group {
			l[0].Steps, l[1].Steps = l[0].Steps[:1], append(l[0].Steps[1:], l[1].Steps...)
			return l
		},
		func(l []Group) []Group { l[1].Steps[1].To++; return l },
		func(l []Group) []Group { l[0].Steps[0].Slice[1].Rune = 'c'; return l },
		func(l []Group) []Group { l[0].Steps[1].Sets[0][7] = 1; return l },
		func(l []Group) []Group { slices.Reverse(l[0].Steps); return l },
	} {
		if a, b := full(), change(full()); Same(a, b) || Same(b, a) || !Same(b, b) {
			t.Error(i, b)
		}
	}
	a, b := full(), full()
	b[1].Steps[1].Slice, b[1].Steps[1].Sets, b[0].Steps[0].Sets = []api.Token{}, []api.Marks{}, []api.Marks{}
	if !Same(a, b) || !Same(nil, []Group{}) || !Same([]Group{{}}, []Group{{Steps: []api.Step{}}}) {
		t.Error("nil and empty")
	}
}

// spoil changes all that a chain's lists have, and the room behind their ends.
func spoil(l []Group) {
	for _, g := range l {
		for i, x := range g.Steps {
			_, _ = append(x.Slice, api.Token{Kind: 9}), append(x.Sets, api.Marks{9})
			clear(x.Slice)
			clear(x.Sets)
			g.Steps[i].From = 9
		}
		_ = append(g.Steps, api.Step{Kind: 9})
	}
	_ = append(l, Group{Lost: 9})
	clear(l)
}

// roomy is a chain like another one, with room behind the ends of its lists that has something.
func roomy(l []Group) (cut, whole []Group) {
	for _, g := range append(l, Group{Lost: 7}) {
		steps := append(g.Steps, mark(1, 9))
		for i, x := range steps {
			slice, sets := append(x.Slice, api.Token{Kind: 8}), append(x.Sets, api.Marks{8})
			steps[i].Slice, steps[i].Sets = slice[:len(x.Slice)], sets[:len(x.Sets)]
		}
		g.Steps = steps[:len(g.Steps)]
		whole = append(whole, g)
	}
	return whole[:len(l)], whole
}

// behindEnds tells whether what roomy put behind the ends of lists is there still.
func behindEnds(cut, whole []Group) bool {
	for _, g := range cut {
		all := g.Steps[:len(g.Steps)+1]
		if !step.Same(all[len(g.Steps)], mark(1, 9)) {
			return false
		}
		for _, x := range all {
			if x.Slice[:len(x.Slice)+1][len(x.Slice)].Kind != 8 || x.Sets[:len(x.Sets)+1][len(x.Sets)] != (api.Marks{8}) {
				return false
			}
		}
	}
	return whole[len(cut)].Lost == 7
}

// P35.1, P3: a copy is like it, with lists of its own; so is what a chain comes to.
func TestOwnLists(t *testing.T) {
	m := list(0, 0, 3, 9, 1, 0)
	moved := Over(full(), m)
	for name, f := range map[string]func(l []Group) []Group{
		"copy":       Copy,
		"over":       func(l []Group) []Group { return Over(l, m) },
		"over wrong": func(l []Group) []Group { return Over(l, list(-1, 0, 0)) },
		"over none":  func(l []Group) []Group { return Over(l, nil) },
	} {
		l, whole := roomy(full())
		got := f(l)
		if name != "over" && !Same(got, full()) || name == "over" && (!Same(got, moved) || Same(got, l)) {
			t.Error(name, got)
		}
		other := f(l)
		spoil(got)
		if !Same(l, full()) || !behindEnds(l, whole) {
			t.Error(name, "changes what it was handed", l)
		}
		clear(l[0].Steps[0].Slice)
		clear(l[0].Steps[1].Sets)
		clear(l[1].Steps)
		if name != "over" && !Same(other, full()) || name == "over" && !Same(other, moved) {
			t.Error(name, "keeps what it was handed", other)
		}
	}
	if !slices.Equal(m, list(0, 0, 3, 9, 1, 0)) {
		t.Error(m)
	}
	if l := Copy(nil); len(l) != 0 {
		t.Error(l)
	}
	if l := Copy([]Group{{}, {Lost: 2}}); !Same(l, []Group{{}, {Lost: 2}}) {
		t.Error(l)
	}
}

// P35.1: of as many steps as a history has each one moves; those ahead of the change stay.
func TestLong(t *testing.T) {
	var l, want []Group
	for k := range 5000 {
		l = append(l, Group{Steps: []api.Step{splice(9000-k, 9001-k, 0)}, Pin: text(20000, 5)})
		at := 9000 - k
		if at >= 7000 {
			at += 4
		}
		want = append(want, Group{Steps: []api.Step{splice(at, at+1, 0)}, Pin: text(20004, 5)})
	}
	if got := Over(l, list(7000, 0, 4)); !Same(got, want) || Steps(got) != 5000 {
		for i := range got {
			if !Same(got[i:i+1], want[i:i+1]) {
				t.Fatalf("%d: %+v, not %+v", i, got[i], want[i])
			}
		}
	}
}
