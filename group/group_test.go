package group

import (
	"slices"
	"testing"

	"stet/api"
	"stet/step"
)

const (
	least    = -1 << 63
	great    = 1<<63 - 1
	most     = 1 << 30
	farthest = 1 << 40
)

// list is a map of numbers, three for each range.
func list(numbers ...int) []api.Range {
	var m []api.Range
	for i := 0; i < len(numbers); i += 3 {
		m = append(m, api.Range{At: numbers[i], Old: numbers[i+1], New: numbers[i+2]})
	}
	return m
}

// spans are spans of numbers, two for each.
func spans(numbers ...int) [][2]int {
	var l [][2]int
	for i := 0; i < len(numbers); i += 2 {
		l = append(l, [2]int{numbers[i], numbers[i+1]})
	}
	return l
}

// put is a splice of so many closes.
func put(from, to, n int) api.Step {
	return api.Step{Kind: api.Splice, From: from, To: to, Slice: make([]api.Token, n)}
}

// around is an around of two tokens, one ahead and one behind.
func around(from, gapFrom, gapTo, to int) api.Step {
	return api.Step{Kind: api.Around, From: from, To: to, GapFrom: gapFrom, GapTo: gapTo, Insert: 1, Slice: make([]api.Token, 2)}
}

// marking is a step without ranges.
func marking(kind, from, to int) api.Step {
	x := api.Step{Kind: kind, From: from, To: to}
	if kind == api.Remark {
		x.Sets = make([]api.Marks, to-from)
	}
	return x
}

// many are more tokens than a step may have.
var many = make([]api.Token, api.MaxSize+1)

// wrongs are steps whose shape isn't right.
func wrongs() []api.Step {
	return []api.Step{{}, {Kind: 6, From: 5, To: 5}, put(6, 5, 0), put(-1, 9, 0), put(0, most+1, 0), {Kind: api.Splice, From: 5, To: 5, Slice: many}, around(5, 4, 6, 7), around(4, 5, 7, 6), marking(api.AddMark, 6, 5), {Kind: api.Remark, From: 5, To: 6}, {Kind: api.Splice, From: 5, To: 6, Value: 1}}
}

// P36.1: what touches spans.
func TestTouches(t *testing.T) {
	for i, x := range []struct {
		x     api.Step
		spans [][2]int
		want  bool
	}{
		{put(5, 5, 1), spans(5, 5), true}, {put(4, 4, 1), spans(5, 6), false}, {put(5, 5, 1), spans(5, 6), true}, {put(6, 6, 1), spans(5, 6), true}, {put(7, 7, 1), spans(5, 6), false}, {put(3, 4, 1), spans(5, 6), false}, {put(3, 5, 1), spans(5, 6), true}, {put(3, 9, 0), spans(5, 6), true}, {put(6, 9, 0), spans(5, 6), true}, {put(7, 9, 0), spans(5, 6), false}, {put(5, 6, 0), spans(4, 7), true},
		// What it puts in doesn't count.
		{put(3, 3, 9), spans(5, 6), false}, {put(3, 4, 2), spans(5, 6), false},
		{put(5, 5, 1), nil, false}, {put(0, most, 1), spans(), false}, {put(8, 8, 1), spans(1, 2, 8, 9, 20, 30), true}, {put(25, 26, 1), spans(1, 2, 8, 9, 20, 30), true}, {put(2, 2, 1), spans(1, 2, 8, 9), true}, {put(4, 6, 1), spans(1, 2, 8, 9), false},
		// A span whose begin is above its end is asked all the same.
		{put(5, 5, 1), spans(6, 4), false}, {put(4, 6, 1), spans(6, 4), true}, {put(4, 5, 1), spans(6, 4), false}, {put(5, 6, 1), spans(6, 4), false}, {put(3, 7, 1), spans(6, 4), true}, {put(0, most, 0), spans(great, least), false}, {put(0, most, 0), spans(most, 0), true}, {put(0, most, 0), spans(most+1, 0), false}, {put(0, most, 0), spans(most, -1), false},
		{put(0, 0, 0), spans(least, great), true}, {put(most, most, 0), spans(least, great), true}, {put(0, 0, 0), spans(least, -1), false}, {put(most, most, 0), spans(most+1, great), false}, {put(most, most, 0), spans(most, great), true}, {put(0, 0, 0), spans(least, 0), true},
		// The gap of an around isn't one of its ranges.
		{around(2, 3, 11, 12), spans(5, 9), false}, {around(2, 3, 11, 12), spans(3, 9), true}, {around(2, 3, 11, 12), spans(5, 11), true}, {around(2, 3, 11, 12), spans(0, 1), false}, {around(2, 3, 11, 12), spans(0, 2), true}, {around(2, 3, 11, 12), spans(12, 12), true}, {around(2, 3, 11, 12), spans(13, 13), false}, {around(2, 6, 6, 12), spans(6, 6), true}, {around(2, 2, 12, 12), spans(3, 11), false}, {around(2, 2, 12, 12), spans(12, 14), true}, {around(2, 2, 2, 2), spans(2, 2), true},
		{marking(api.AddMark, 6, 8), spans(5, 6), true}, {marking(api.AddMark, 7, 8), spans(5, 6), false}, {marking(api.AddMark, 2, 5), spans(5, 6), true}, {marking(api.AddMark, 2, 4), spans(5, 6), false}, {marking(api.AddMark, 0, 20), spans(5, 6), true}, {marking(api.AddMark, 5, 5), spans(5, 6), true},
		{marking(api.RemoveMark, 6, 8), spans(5, 6), true}, {marking(api.RemoveMark, 7, 8), spans(5, 6), false}, {marking(api.RemoveMark, 2, 5), spans(5, 6), true}, {marking(api.RemoveMark, 2, 4), spans(5, 6), false},
		{marking(api.Remark, 6, 8), spans(5, 6), true}, {marking(api.Remark, 7, 8), spans(5, 6), false}, {marking(api.Remark, 2, 5), spans(5, 6), true}, {marking(api.Remark, 2, 4), spans(5, 6), false}, {marking(api.Remark, 6, 6), spans(5, 6), true},
	} {
		if !step.Shape(x.x) {
			t.Fatal(i, x.x)
		}
		if got := Touches(x.x, x.spans); got != x.want {
			t.Errorf("%d: %+v touches %v: %v", i, x.x, x.spans, got)
		}
	}
	for i, x := range wrongs() {
		if step.Shape(x) || Touches(x, spans(least, great)) || Touches(x, spans(0, 20, 5, 6)) || Touches(x, nil) {
			t.Error(i, x)
		}
	}
}

// P36.1: the example.
func TestExample(t *testing.T) {
	c := After(1000, spans(5, 6))
	if Fresh(c, 1100, put(6, 6, 1), 500) {
		t.Error("a letter beside the last one")
	}
	c = After(1100, spans(6, 7))
	if !Fresh(c, 1200, put(9, 9, 1), 500) || Fresh(c, 1200, put(7, 7, 1), 500) {
		t.Error("a letter elsewhere")
	}
}

// P36.1: times and delays of any size, reckoned as they are.
func TestTimes(t *testing.T) {
	for i, x := range []struct {
		last, time, delay int64
		want              bool
	}{
		{100, 100, 0, false}, {100, 101, 0, true}, {100, 99, 0, true}, {100, 99, 500, true}, {100, 600, 500, false}, {100, 601, 500, true}, {-100, 400, 500, false}, {-100, 401, 500, true}, {-100, -101, 500, true}, {-100, -100, 0, false},
		{100, 100, -5, false}, {100, 101, -5, true}, {100, 95, -5, true}, {100, 100, least, false}, {100, 101, least, true}, {0, 1, -1, true},
		{least, great, great, true}, {least, -1, great, false}, {least, 0, great, true}, {least, 0, great - 1, true}, {least, -2, great - 1, false}, {0, great, great, false}, {0, great, great - 1, true}, {-1, great, great, true}, {-1, great - 1, great, false}, {great, least, great, true}, {great, great, 0, false}, {least, least, 0, false}, {least, least + 1, 0, true}, {least, least + 1, 1, false}, {great, great - 1, great, true}, {great, least, 0, true}, {great, least, 1, true}, {0, least, great, true}, {1, least, great, true}, {least, great, 0, true}, {least, great, -1, true}, {least, great, least, true},
	} {
		c := After(x.last, spans(5, 6))
		if got := Fresh(c, x.time, put(5, 5, 1), x.delay); got != x.want {
			t.Errorf("%d: %+v: %v", i, x, got)
		}
		if !Fresh(c, x.time, put(9, 9, 1), x.delay) || !Fresh(c.Shut(), x.time, put(5, 5, 1), x.delay) || !Fresh(Clock{Time: x.last, Spans: spans(5, 6)}, x.time, put(5, 5, 1), x.delay) {
			t.Errorf("%d: %+v isn't fresh elsewhere, or behind a shut", i, x)
		}
	}
}

// P36.1: a group that isn't open, that nothing is told of, or that the first step doesn't touch, isn't gone on with.
func TestFresh(t *testing.T) {
	c := After(100, spans(5, 6, 9, 9))
	for i, x := range []struct {
		c     Clock
		first api.Step
		want  bool
	}{
		{c, put(5, 5, 1), false}, {c, put(9, 9, 1), false}, {c, put(7, 8, 1), true}, {c, put(7, 9, 1), false}, {c, marking(api.AddMark, 6, 8), false}, {c, marking(api.Remark, 7, 8), true}, {c, around(2, 3, 11, 12), true}, {c, around(2, 3, 8, 9), false},
		{Clock{}, put(0, 0, 1), true}, {Clock{Open: true, Time: 100}, put(0, 0, 1), true}, {After(100, nil), put(0, most, 1), true}, {Clock{Open: true, Time: 100, Spans: spans(0, 0)}, put(0, 0, 1), false}, {Clock{Time: 100, Spans: spans(0, 0)}, put(0, 0, 1), true}, {After(100, spans(6, 4)), put(4, 6, 1), false}, {After(100, spans(6, 4)), put(5, 5, 1), true},
	} {
		if got := Fresh(x.c, 100, x.first, 0); got != x.want {
			t.Errorf("%d: %+v behind %+v: %v", i, x.first, x.c, got)
		}
	}
	for i, x := range wrongs() {
		if !Fresh(After(100, spans(least, great, 0, 20)), 100, x, great) {
			t.Error(i, x)
		}
	}
}

// same tells whether two clocks are the same.
func same(a, b Clock) bool {
	return a.Open == b.Open && a.Time == b.Time && slices.Equal(a.Spans, b.Spans)
}

// P36.2: spans over maps, each begin on the right side, each end on the left one.
func TestOver(t *testing.T) {
	for i, x := range []struct {
		was, want [][2]int
		m         []api.Range
	}{
		{spans(5, 6, 9, 9), spans(5, 5, 10, 10), list(5, 1, 0, 8, 0, 2)}, {spans(9, 9), nil, list(9, 0, 1)}, {spans(9, 9), spans(9, 9), list(9, 0, 0)}, {spans(9, 9), spans(9, 9), list(9, 1, 4)}, {spans(9, 9), spans(12, 12), list(8, 1, 4)}, {spans(9, 9), spans(8, 8), list(8, 2, 0)}, {spans(9, 9), nil, list(8, 2, 1)},
		// What is put in at the ends stands outside, what is put in between within.
		{spans(5, 8), spans(7, 10), list(5, 0, 2)}, {spans(5, 8), spans(5, 8), list(8, 0, 2)}, {spans(5, 8), spans(5, 10), list(6, 0, 2)}, {spans(5, 8), spans(7, 10), list(4, 0, 2)}, {spans(5, 8), spans(5, 8), list(9, 0, 2)}, {spans(5, 6), spans(6, 7), list(5, 0, 1, 6, 0, 1)},
		{spans(5, 8), spans(5, 7), list(5, 3, 2)}, {spans(5, 8), spans(4, 4), list(4, 5, 0)}, {spans(5, 8), nil, list(4, 5, 1)}, {spans(5, 8), spans(6, 7), list(4, 2, 2, 7, 2, 1)}, {spans(5, 8), spans(4, 5), list(4, 2, 0, 7, 2, 0)}, {spans(5, 8), spans(7, 10), list(3, 2, 4, 8, 3, 0)},
		// Spans go one by one, those that are gone leave no trace.
		{spans(1, 2, 4, 4, 7, 9, 4, 5, 3, 4), spans(1, 2, 9, 11, 6, 7, 3, 4), list(4, 0, 2)}, {spans(4, 4), nil, list(4, 0, 2)}, {nil, nil, list(4, 0, 2)}, {nil, nil, nil}, {spans(5, 6), spans(5, 6), nil}, {spans(6, 5), nil, nil}, {spans(6, 5), nil, list(1, 0, 1)}, {spans(6, 5), spans(4, 4), list(4, 3, 0)}, {spans(7, 4), spans(4, 4), list(4, 3, 0)}, {spans(6, 4), nil, list(4, 3, 1)},
		// What is out of a map's reach comes to 0.
		{spans(-1, 5), spans(0, 6), list(1, 0, 1)}, {spans(5, farthest+1), nil, list(1, 0, 1)}, {spans(-1, great), spans(0, 0), list(0, 0, 3)}, {spans(great, 0), spans(0, 0), nil}, {spans(great, 5), spans(0, 5), nil}, {spans(farthest, farthest), spans(farthest+1, farthest+1), list(5, 0, 1)}, {spans(farthest+1, farthest), spans(0, farthest+1), list(5, 0, 1)}, {spans(0, least), nil, list(0, 0, 1)}, {spans(0, 0), nil, list(0, 0, 1)}, {spans(0, most), spans(0, 0), list(0, most, 0)}, {spans(0, -1, least, -1), spans(0, 0, 0, 0), nil},
	} {
		for _, open := range []bool{true, false} {
			for _, time := range []int64{0, -7, great} {
				c := Clock{Open: open, Time: time, Spans: x.was}
				if got := c.Over(x.m); !same(got, Clock{Open: open, Time: time, Spans: x.want}) {
					t.Errorf("%d: %+v over %v: %+v, not %v", i, c, x.m, got, x.want)
				}
			}
		}
	}
}

// P36.2: over a map that isn't right a clock is as it is.
func TestWrongMaps(t *testing.T) {
	for i, m := range [][]api.Range{list(-1, 0, 0), list(0, -1, 0), list(0, 0, -1), list(most+1, 0, 0), list(0, most+1, 0), list(0, 0, most+1), list(5, 1, 0, 6, 0, 0), list(9, 0, 0, 7, 0, 0), list(great, great, great), make([]api.Range, 1001)} {
		for _, c := range []Clock{{}, {Open: true, Time: -4, Spans: spans(5, 6, 9, 9, 7, 3, -1, great)}, {Time: least, Spans: spans(0, 0)}} {
			if got := c.Over(m); !same(got, c) {
				t.Errorf("%d: %+v: %+v", i, c, got)
			}
		}
	}
}

// P36.2: clocks behind edits, and shut ones, which differ from others in nothing else.
func TestAfterAndShut(t *testing.T) {
	for _, time := range []int64{0, 5, -5, least, great} {
		for _, l := range [][][2]int{nil, spans(5, 6), spans(9, 3, -1, great, 5, 6)} {
			c := After(time, l)
			if !same(c, Clock{Open: true, Time: time, Spans: l}) {
				t.Error(time, l, c)
			}
			for range 2 {
				d := c.Shut()
				if !same(d, Clock{Time: time, Spans: l}) || !same(d.Shut(), d) || !c.Open {
					t.Error(c, d)
				}
			}
		}
	}
	if !same(Clock{}.Shut(), Clock{}) {
		t.Error("a zero clock")
	}
}

// P3, P4: no clock has a list of another one, or of what was handed in.
func TestOwnLists(t *testing.T) {
	room := spans(5, 6, 8, 9, 1, 1)
	was, m := slices.Clone(room), list(7, 0, 2, 9, 9, 9)
	for name, f := range map[string]func(l [][2]int) Clock{
		"after":           func(l [][2]int) Clock { return After(4, l) },
		"over":            func(l [][2]int) Clock { return Clock{true, 4, l}.Over(m[:1]) },
		"over wrong":      func(l [][2]int) Clock { return Clock{true, 4, l}.Over(list(-1, 0, 0)) },
		"over none":       func(l [][2]int) Clock { return Clock{true, 4, l}.Over(nil) },
		"shut":            func(l [][2]int) Clock { return Clock{true, 4, l}.Shut() },
		"shut once again": func(l [][2]int) Clock { return Clock{false, 4, l}.Shut() },
	} {
		l := slices.Clone(room)
		c := f(l[:2])
		got := slices.Clone(c.Spans)
		d := f(l[:2])
		_ = append(c.Spans, [2]int{7, 7})
		clear(c.Spans)
		if !slices.Equal(l, was) || !slices.Equal(d.Spans, got) || len(got) != 2 {
			t.Error(name, l, d)
		}
		clear(l)
		if !slices.Equal(d.Spans, got) {
			t.Error(name, d)
		}
	}
	x := put(5, 5, 1)
	c := After(4, room[:2])
	Touches(x, room[:2])
	Fresh(c, 5, x, 3)
	if !slices.Equal(room, was) || !same(c, Clock{true, 4, was[:2]}) || !slices.Equal(m, list(7, 0, 2, 9, 9, 9)) || !step.Same(x, put(5, 5, 1)) {
		t.Error(room, c, m, x)
	}
}
