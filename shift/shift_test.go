package shift

import (
	"slices"
	"testing"

	"stet/api"
	"stet/route"
	"stet/smap"
	"stet/step"
)

const (
	least = -1 << 63
	great = 1<<63 - 1
	most  = 1 << 30
)

// list is a map of numbers, three for each range.
func list(numbers ...int) []api.Range {
	var m []api.Range
	for i := 0; i < len(numbers); i += 3 {
		m = append(m, api.Range{At: numbers[i], Old: numbers[i+1], New: numbers[i+2]})
	}
	return m
}

// splice is a splice of so many closes.
func splice(from, to, n int) api.Step {
	return api.Step{Kind: api.Splice, From: from, To: to, Slice: make([]api.Token, n)}
}

// around is an around of two tokens, one ahead and one behind.
func around(from, gapFrom, gapTo, to int) api.Step {
	return api.Step{Kind: api.Around, From: from, To: to, GapFrom: gapFrom, GapTo: gapTo, Insert: 1, Slice: make([]api.Token, 2)}
}

// mark is a mark added.
func mark(from, to int) api.Step {
	return api.Step{Kind: api.AddMark, From: from, To: to, Mark: 3, Value: 4}
}

// remark is a remark of sets that are told apart.
func remark(from, to int) api.Step {
	x := api.Step{Kind: api.Remark, From: from, To: to}
	for i := range to - from {
		x.Sets = append(x.Sets, api.Marks{uint16(i + 1)})
	}
	return x
}

// wrongs are steps whose shape isn't right.
func wrongs() []api.Step {
	return []api.Step{{}, {Kind: 6}, splice(3, 2, 0), splice(-1, 2, 0), splice(0, most+1, 0), splice(0, 0, 20001), around(3, 2, 5, 6), around(3, 4, 7, 6), around(3, 5, 4, 6), mark(5, 4), {Kind: api.Remark, To: 1}, {Kind: api.Splice, Mark: 1}, {Kind: api.AddMark, To: 3, Slice: make([]api.Token, 1)}}
}

// P26.1: the examples, and what each kind comes to over maps; zero if it is lost.
func TestOver(t *testing.T) {
	var lost api.Step
	removing := mark(3, 6)
	removing.Kind = api.RemoveMark
	removed := removing
	removed.From, removed.To = 5, 8
	for i, x := range []struct {
		x    api.Step
		m    []api.Range
		want api.Step
	}{
		{splice(5, 7, 1), list(2, 0, 3), splice(8, 10, 1)}, {splice(5, 7, 1), list(4, 9, 0), lost}, {splice(5, 7, 1), nil, splice(5, 7, 1)},
		// What is put in at the ends stays outside, what is put in between goes.
		{splice(5, 7, 1), list(5, 0, 2), splice(7, 9, 1)}, {splice(5, 7, 1), list(7, 0, 2), splice(5, 7, 1)}, {splice(5, 7, 1), list(6, 0, 2), splice(5, 9, 1)}, {splice(5, 5, 1), list(5, 0, 2), splice(7, 7, 1)}, {splice(5, 5, 0), list(5, 0, 0), splice(5, 5, 0)}, {splice(5, 5, 1), list(5, 2, 3), splice(5, 5, 1)}, {splice(5, 5, 1), list(4, 1, 3), splice(7, 7, 1)},
		// One end inside, or both, or what is between gone from end to end.
		{splice(5, 7, 1), list(4, 2, 1), splice(5, 6, 1)}, {splice(5, 7, 1), list(6, 2, 1), splice(5, 6, 1)}, {splice(5, 7, 1), list(4, 4, 0), lost}, {splice(5, 7, 1), list(4, 4, 3), lost}, {splice(5, 7, 1), list(5, 2, 0), splice(5, 5, 1)}, {splice(5, 7, 1), list(5, 2, 3), splice(5, 8, 1)}, {splice(5, 7, 1), list(5, 3, 3), splice(5, 5, 1)}, {splice(5, 7, 1), list(4, 3, 3), splice(7, 7, 1)}, {splice(5, 5, 1), list(4, 2, 3), lost}, {splice(5, 7, 1), list(5, 1, 0, 7, 1, 0), splice(5, 6, 1)}, {splice(5, 7, 1), list(3, 3, 0, 7, 1, 0), splice(3, 4, 1)}, {splice(5, 8, 1), list(4, 2, 0, 7, 2, 0), lost}, {splice(5, 8, 0), list(4, 2, 0, 7, 1, 0), splice(4, 5, 0)},
		{splice(5, 8, 0), list(4, 4, 0), splice(4, 4, 0)}, {splice(5, 8, 0), list(5, 4, 0), splice(5, 5, 0)},
		{splice(5, most, 1), list(5, 0, 1), lost}, {splice(5, most-1, 1), list(5, 0, 1), splice(6, most, 1)}, {splice(most, most, 1), list(5, 0, 1), lost}, {splice(most, most, 1), list(most, 0, most), lost}, {splice(most, most, 1), list(most, most, 0), splice(most, most, 1)}, {splice(most, most, 1), list(0, most, 0), splice(0, 0, 1)}, {splice(5, most, 1), list(most, 0, 7), splice(5, most, 1)},
		{around(2, 3, 7, 8), list(0, 0, 3), around(5, 6, 10, 11)}, {around(2, 3, 7, 8), list(5, 1, 4), around(2, 3, 10, 11)}, {around(2, 3, 7, 8), list(2, 0, 3), around(5, 6, 10, 11)}, {around(2, 3, 7, 8), list(3, 0, 3), around(2, 3, 10, 11)}, {around(2, 3, 7, 8), list(7, 0, 3), around(2, 3, 10, 11)}, {around(2, 3, 7, 8), list(8, 0, 3), around(2, 3, 7, 8)}, {around(2, 3, 7, 8), list(3, 4, 0), around(2, 3, 3, 4)}, {around(2, 3, 7, 8), list(3, 4, 9), around(2, 3, 12, 13)},
		{around(2, 3, 7, 8), list(1, 3, 2), lost}, {around(2, 3, 7, 8), list(6, 3, 2), lost}, {around(2, 3, 7, 8), list(2, 1, 0, 7, 1, 0), around(2, 2, 6, 6)}, {around(2, 3, 7, 8), list(2, 6, 0), around(2, 2, 2, 2)}, {around(2, 3, 7, 8), list(2, 6, 3), around(2, 2, 5, 5)}, {around(2, 3, 7, 8), list(1, 8, 0), lost}, {around(2, 3, 7, 8), list(1, 7, 0), around(1, 1, 1, 1)}, {around(2, 3, 7, 8), list(1, 3, 0), around(1, 1, 4, 5)}, {around(2, 3, 7, 8), list(0, 2, 0, 3, 1, 1), around(0, 1, 5, 6)},
		{around(3, 3, 3, 3), nil, around(3, 3, 3, 3)}, {around(3, 3, 3, 3), list(3, 0, 1), lost}, {around(3, 3, 3, 3), list(2, 0, 1), around(4, 4, 4, 4)}, {around(3, 3, 6, 7), list(3, 0, 1), lost}, {around(3, 4, 6, 6), list(6, 0, 1), lost}, {around(3, 4, 6, 6), list(6, 1, 1), around(3, 4, 6, 6)}, {around(3, 4, 6, 6), list(5, 1, 4), around(3, 4, 9, 9)}, {around(3, 5, 7, 9), list(4, 2, 2), around(3, 4, 7, 9)}, {around(3, 5, 7, 9), list(6, 2, 2), around(3, 5, 8, 9)}, {around(3, 5, 7, 9), list(4, 2, 2, 7, 2, 0), around(3, 4, 7, 7)}, {around(3, 5, 7, 9), list(2, 4, 2), lost}, {around(3, 5, 7, 9), list(4, 4, 2), around(3, 4, 6, 7)},
		{mark(3, 6), list(3, 0, 2), mark(5, 8)}, {removing, list(3, 0, 2), removed}, {mark(3, 6), list(6, 0, 2), mark(3, 6)}, {mark(3, 6), list(4, 1, 0), mark(3, 5)}, {mark(3, 6), list(4, 2, 0), mark(3, 4)}, {mark(3, 6), list(3, 3, 0), lost}, {removing, list(3, 3, 0), lost}, {mark(3, 6), list(3, 3, 1), mark(3, 4)}, {mark(3, 6), list(3, 4, 1), lost}, {mark(3, 6), list(2, 5, 9), lost}, {mark(3, 3), nil, lost}, {mark(3, 3), list(0, 0, 1), lost}, {mark(3, 3), list(3, 0, 1), lost}, {mark(3, 6), list(2, 4, 5), lost}, {mark(3, 6), list(2, 3, 5), mark(7, 8)}, {mark(most-1, most), list(0, 0, 1), lost},
		{remark(2, 4), list(2, 0, 1), remark(3, 5)}, {remark(2, 4), list(3, 0, 1), lost}, {remark(2, 4), list(3, 0, 0), remark(2, 4)}, {remark(2, 4), list(4, 0, 1), remark(2, 4)}, {remark(2, 4), list(3, 1, 1), lost}, {remark(2, 4), list(2, 1, 1), lost}, {remark(2, 4), list(1, 2, 0), lost}, {remark(2, 4), list(1, 1, 0), remark(1, 3)}, {remark(2, 4), list(4, 1, 0), remark(2, 4)}, {remark(2, 4), list(3, 2, 2), lost}, {remark(2, 4), list(2, 2, 2), lost}, {remark(2, 3), list(2, 1, 1), lost}, {remark(2, 3), list(3, 4, 1), remark(2, 3)},
		{remark(2, 2), nil, remark(2, 2)}, {remark(2, 2), list(2, 0, 1), remark(3, 3)}, {remark(2, 2), list(2, 1, 0), remark(2, 2)}, {remark(2, 2), list(1, 1, 0), remark(1, 1)}, {remark(2, 2), list(1, 2, 0), lost}, {remark(2, 2), list(1, 2, 5), lost}, {remark(most-1, most), list(7, 0, 1), lost}, {remark(most-2, most-1), list(7, 0, 1), remark(most-1, most)},
	} {
		y, ok := Over(x.x, x.m)
		if ok != (x.want.Kind > 0) || !step.Same(y, x.want) {
			t.Errorf("%d: %+v over %v: %+v, %v, not %+v", i, x.x, x.m, y, ok, x.want)
		}
		var r route.Route
		if e := r.Add(x.m); e != api.OK {
			t.Fatal(x.m, e)
		}
		if z, fine := Through(x.x, &r); fine != ok || !step.Same(z, y) {
			t.Errorf("%+v through %v: %+v, %v", x.x, x.m, z, fine)
		}
		if z, fine := By(x.x, r.Tell); fine != ok || !step.Same(z, y) {
			t.Errorf("%+v by %v: %+v, %v", x.x, x.m, z, fine)
		}
	}
}

// P26.1, P26.2: through no maps a step is itself, but a mark from a position to itself.
func TestNoMaps(t *testing.T) {
	var zero route.Route
	for _, x := range []api.Step{splice(0, 0, 0), splice(3, 9, 20000), splice(0, most, 1), splice(most, most, 1), around(0, 0, 0, 0), around(2, 2, 9, 9), around(2, 4, 4, 7), around(0, 0, most, most), mark(0, 1), mark(0, most), remark(0, 0), remark(5, 20005), remark(most, most), {Kind: api.RemoveMark, From: 7, To: 9, Mark: -5, Value: great}} {
		for _, ok := range []bool{true, false} {
			if !ok {
				if x.Kind != api.AddMark && x.Kind != api.RemoveMark {
					continue
				}
				x.To = x.From
			}
			want := x
			if !ok {
				want = api.Step{}
			}
			y, a := Through(x, &zero)
			z, b := Over(x, nil)
			u, c := Past(x, mark(9, 9))
			v, d := By(x, func(position, side int) (smap.Place, api.Errno) { return smap.Place{Position: position}, api.OK })
			if a != ok || b != ok || c != ok || d != ok || !step.Same(y, want) || !step.Same(z, want) || !step.Same(u, want) || !step.Same(v, want) {
				t.Errorf("%.200v: %.200v, %.200v, %.200v, %.200v", x, y, z, u, v)
			}
		}
	}
}

// P26.1: what is lost whatever it goes through, and through what everything is lost.
func TestLost(t *testing.T) {
	var zero route.Route
	lost := func(y api.Step, ok bool) bool { return !ok && step.Same(y, api.Step{}) }
	for i, x := range wrongs() {
		if !lost(Through(x, &zero)) || !lost(Through(x, nil)) || !lost(Over(x, nil)) || !lost(Over(x, list(0, 0, 1))) || !lost(Past(x, splice(0, 0, 1))) || !lost(By(x, zero.Tell)) || !lost(By(x, nil)) {
			t.Errorf("%d: %.200v", i, x)
		}
	}
	for _, x := range []api.Step{splice(3, 5, 1), around(3, 4, 5, 6), mark(3, 5), remark(3, 5), remark(3, 3)} {
		if !lost(Through(x, nil)) || !lost(By(x, nil)) {
			t.Errorf("%+v through nil", x)
		}
		for _, m := range [][]api.Range{list(5, 1, 0, 6, 0, 0), list(-1, 0, 0), list(0, 0, -1), list(most+1, 0, 0), list(0, most+1, 0), list(9, 0, 0, 7, 0, 0), make([]api.Range, 1001), list(great, great, great), list(least, 0, 0)} {
			if !lost(Over(x, m)) {
				t.Errorf("%+v over %.90v", x, m)
			}
		}
		for i, ahead := range wrongs() {
			if !lost(Past(x, ahead)) {
				t.Errorf("%+v past %d", x, i)
			}
		}
	}
}

// P26.1: past what another one does.
func TestPast(t *testing.T) {
	for i, x := range []struct {
		x, ahead, want api.Step
	}{
		{splice(5, 7, 1), splice(1, 3, 0), splice(3, 5, 1)}, {splice(5, 7, 1), splice(5, 5, 4), splice(9, 11, 1)}, {splice(5, 7, 1), splice(4, 13, 0), api.Step{}}, {splice(5, 7, 1), splice(8, 9, 4), splice(5, 7, 1)},
		{splice(5, 7, 1), around(3, 3, 9, 9), splice(6, 8, 1)}, {splice(5, 7, 1), around(3, 5, 7, 9), splice(4, 6, 1)}, {splice(5, 7, 1), around(3, 6, 6, 9), api.Step{}}, {splice(5, 7, 1), around(3, 6, 7, 9), splice(4, 5, 1)},
		{splice(5, 7, 1), mark(5, 7), splice(5, 7, 1)}, {splice(5, 7, 1), remark(5, 7), splice(5, 7, 1)}, {remark(5, 7), remark(5, 7), remark(5, 7)}, {mark(5, 7), splice(5, 7, 2), mark(5, 7)}, {remark(5, 7), splice(5, 7, 2), api.Step{}}, {around(2, 3, 7, 8), splice(3, 7, 0), around(2, 3, 3, 4)}, {around(2, 3, 7, 8), around(2, 3, 7, 8), around(2, 3, 7, 8)},
	} {
		y, ok := Past(x.x, x.ahead)
		if ok != (x.want.Kind > 0) || !step.Same(y, x.want) {
			t.Errorf("%d: %+v past %+v: %+v, %v", i, x.x, x.ahead, y, ok)
		}
		if z, fine := Over(x.x, step.Map(x.ahead)); fine != ok || !step.Same(z, y) {
			t.Errorf("%d: %+v, %v", i, z, fine)
		}
	}
}

// P26.1: through maps of which some bring back what others took.
func TestMirrors(t *testing.T) {
	var r route.Route
	if e := r.Add(list(4, 9, 0)); e != api.OK {
		t.Fatal(e)
	}
	if e := r.Add(list(0, 0, 2)); e != api.OK {
		t.Fatal(e)
	}
	steps := []api.Step{splice(5, 7, 1), around(4, 5, 12, 13), mark(6, 7), remark(4, 13), remark(2, 6)}
	for i, want := range []bool{false, true, false, false, false} {
		if y, ok := Through(steps[i], &r); ok != want || ok && !step.Same(y, around(6, 6, 6, 6)) {
			t.Error(y, ok)
		}
	}
	if e := r.Mirror(list(6, 0, 9), 0); e != api.OK {
		t.Fatal(e)
	}
	for i, want := range []api.Step{splice(5, 7, 1), around(4, 5, 12, 13), mark(6, 7), remark(4, 13), remark(2, 6)} {
		// What is recovered goes on behind the mirror, what stood beside it through all maps.
		back := func(at int) int {
			if at >= 4 && at < 13 {
				return at + 2
			}
			return r.Position(at, 1)
		}
		want.From, want.To = back(want.From), back(want.To-1)+1
		if want.Kind == api.Around {
			want.GapFrom, want.GapTo = back(want.GapFrom), back(want.GapTo)
		}
		if y, ok := Through(steps[i], &r); !ok || !step.Same(y, want) {
			t.Errorf("%+v: %+v, %v, not %+v", steps[i], y, ok, want)
		}
	}
}

// P26.1: each position is asked of its side, and what one that can't go through, or goes far off, makes of a step.
func TestBy(t *testing.T) {
	type asked struct{ position, side int }
	for i, x := range []struct {
		x    api.Step
		want []asked
	}{
		{splice(5, 7, 1), []asked{{5, 1}, {7, -1}}}, {mark(5, 7), []asked{{5, 1}, {7, -1}}}, {around(2, 4, 6, 8), []asked{{2, 1}, {8, -1}, {4, -1}, {6, 1}}}, {remark(3, 6), []asked{{3, 1}, {4, 1}, {5, 1}, {6, -1}}}, {remark(3, 3), []asked{{3, 1}, {3, -1}}},
	} {
		var got []asked
		tell := func(position, side int) (smap.Place, api.Errno) {
			side = max(min(side, 1), -1)
			if side == 0 {
				side = 1
			}
			if one := (asked{position, side}); !slices.Contains(got, one) {
				got = append(got, one)
			}
			return smap.Place{Position: position + 10}, api.OK
		}
		y, ok := By(x.x, tell)
		if !ok || y.From != x.x.From+10 || y.To != x.x.To+10 {
			t.Error(i, y, ok)
		}
		for _, one := range x.want {
			if !slices.Contains(got, one) {
				t.Error(i, one, got)
			}
		}
		if len(got) != len(x.want) {
			t.Error(i, got)
		}
		for _, wrong := range x.want {
			for _, e := range []api.Errno{api.ErrRange, api.ErrNil, -1} {
				refuse := func(position, side int) (smap.Place, api.Errno) {
					p, _ := tell(position, side)
					if position == wrong.position && (side < 0) == (wrong.side < 0) {
						return p, e
					}
					return p, api.OK
				}
				if y, ok := By(x.x, refuse); ok || !step.Same(y, api.Step{}) {
					t.Error(i, wrong, y, ok)
				}
			}
		}
		// P5: places that may be no step's aren't let go round.
		for _, far := range []int{least, least + 1, -most, -11, most, 1 << 31, 1<<32 - 5, 1 << 32, 1 << 40, great - 20, great - 5, great} {
			by := func(position, side int) (smap.Place, api.Errno) { return smap.Place{Position: position + far}, api.OK }
			if y, ok := By(x.x, by); ok || !step.Same(y, api.Step{}) {
				t.Error(i, far, y, ok)
			}
		}
	}
}

// P3, P6: what is handed in stays, spare room too, and isn't kept; what is answered is new, and the same each time.
func TestStays(t *testing.T) {
	x, y := splice(5, 7, 2), remark(5, 7)
	x.Slice, y.Sets = slices.Grow(x.Slice, 3), slices.Grow(y.Sets, 3)
	room, more := append(x.Slice, api.Token{Kind: 7}), append(y.Sets, api.Marks{7})
	m := append(list(2, 0, 3), api.Range{At: 9})
	var r route.Route
	if e := r.Add(m[:1]); e != api.OK {
		t.Fatal(e)
	}
	for range 3 {
		for _, f := range []func(x api.Step) (api.Step, bool){
			func(x api.Step) (api.Step, bool) { return Over(x, m[:1]) },
			func(x api.Step) (api.Step, bool) { return Through(x, &r) },
			func(x api.Step) (api.Step, bool) { return By(x, r.Tell) },
			func(x api.Step) (api.Step, bool) { return Past(x, splice(2, 2, 3)) },
		} {
			a, ok := f(x)
			b, fine := f(y)
			if !ok || !fine || !step.Same(a, splice(8, 10, 2)) || !step.Same(b, remark(8, 10)) {
				t.Fatal(a, ok, b, fine)
			}
			_ = append(a.Slice, api.Token{Kind: 9})
			_ = append(b.Sets, api.Marks{9})
			a.Slice[0].Kind, b.Sets[0] = 9, api.Marks{9}
			if !slices.Equal(room, append(make([]api.Token, 2), api.Token{Kind: 7})) || !slices.Equal(more, []api.Marks{{1}, {2}, {7}}) || !slices.Equal(m, append(list(2, 0, 3), api.Range{At: 9})) || r.Len() != 1 {
				t.Fatal(room, more, m)
			}
		}
	}
}
