package rules

import (
	"slices"
	"testing"

	"stet/api"
	"stet/chain"
	"stet/group"
	"stet/pin"
	"stet/smap"
	"stet/step"
	"stet/words"
)

// chained are steps that nobody would mean as a chain, with pins that nobody would mean.
func chained() []chain.Group {
	var l []chain.Group
	all := steps()
	for i, n := range numbers() {
		p := pin.Pin{Kind: i % 5, A: n, B: -n}
		l = append(l, chain.Group{Steps: all[:min(4*i, len(all))], Pin: p, Back: pin.Pin{Kind: n, A: n, B: n}, Lost: n / 2})
		all = all[min(4*i, len(all)):]
	}
	return append(l, chain.Group{Steps: all}, chain.Group{})
}

// spanLists are spans of numbers of any size.
func spanLists() [][][2]int {
	l := [][][2]int{nil, {}, {{}}, {{5, 6}, {9, 9}, {7, 3}}}
	for _, a := range append(numbers(), 1<<30, 1<<40, 1<<40+1) {
		for _, b := range numbers() {
			l = append(l, [][2]int{{a, b}, {b, a}, {3, a}, {b, 3}})
		}
	}
	return l
}

// P1, P2, P5: chains of what nobody would mean are taken over maps that nobody would mean; what is left is right, and what is lost is counted.
func TestChains(t *testing.T) {
	l := chained()
	for i, m := range rangeLists() {
		over := chain.Over(l, m)
		if len(over) != len(l) || chain.Steps(chain.Over(nil, m)) != 0 {
			t.Fatal(i, len(over))
		}
		if !smap.Right(m) {
			if !chain.Same(over, l) {
				t.Error(i, over)
			}
			continue
		}
		for k, g := range over {
			if g.Lost-l[k].Lost != len(l[k].Steps)-len(g.Steps) {
				t.Error(i, k, g.Lost)
			}
			for _, p := range []pin.Pin{g.Pin, g.Back} {
				if p.A < 0 || p.B < 0 || p.Kind != api.SelText && p.B != 0 {
					t.Error(i, k, p)
				}
			}
			for _, x := range g.Steps {
				if !step.Shape(x) {
					t.Error(i, k, x)
				}
			}
		}
	}
	if chain.Same(l, nil) || !chain.Same(l, chain.Copy(l)) || chain.Steps(l) != len(steps()) || chain.Steps(nil) != 0 || len(chain.Copy(nil)) != 0 || !chain.Same(nil, nil) {
		t.Error("chains")
	}
}

// P1, P5: clocks of numbers of any size are asked of steps that nobody would mean, and go over maps that nobody would mean.
func TestClocks(t *testing.T) {
	all, maps, times := steps(), rangeLists(), numbers()
	at, fresh, touched := 0, 0, 0
	for _, l := range spanLists() {
		for _, time := range times {
			at++
			x, m, delay := all[at%len(all)], maps[at%len(maps)], times[at%len(times)]
			c := group.Clock{Open: at%5 > 0, Time: int64(times[at/7%len(times)]), Spans: l}
			met := group.Touches(x, l)
			if met {
				touched++
			}
			if met && (!step.Shape(x) || len(l) == 0) {
				t.Error(x, l)
			}
			is := group.Fresh(c, int64(time), x, int64(delay))
			if is {
				fresh++
			}
			if !is && (!met || !c.Open || time < int(c.Time)) {
				t.Error(c, time, x, delay)
			}
			d := c.Over(m)
			if d.Open != c.Open || d.Time != c.Time || !smap.Right(m) && !slices.Equal(d.Spans, c.Spans) || len(d.Spans) > len(l) {
				t.Error(c, d)
			}
			for _, span := range d.Spans {
				if smap.Right(m) && (span[0] < 0 || span[0] > span[1]) {
					t.Error(c, d)
				}
			}
			if s := c.Shut(); s.Open || s.Time != c.Time || !slices.Equal(s.Spans, l) || !group.Fresh(s, int64(time), x, int64(delay)) {
				t.Error(c, s)
			}
		}
	}
	if touched < 100 || fresh < 100 {
		t.Error(touched, fresh)
	}
}

// chainSay is what chains and clocks come to, as words.
func chainSay(t *testing.T) []string {
	t.Helper()
	var said []string
	tell := func(numbers ...int) {
		for _, n := range numbers {
			said = append(said, words.Show(n))
		}
	}
	c := group.After(5, [][2]int{{0, 3}, {5, 9}, {2, 2}})
	l := chained()
	for _, m := range [][]api.Range{nil, {{At: 2, Old: 1, New: 3}}, {{At: 0, New: 2}, {At: 4, Old: 9}}, {{At: -1}}} {
		l, c = chain.Over(l, m), c.Over(m)
		tell(chain.Steps(l), len(c.Spans))
		for _, g := range chain.Copy(l) {
			tell(g.Pin.Kind, g.Pin.A, g.Pin.B, g.Back.Kind, g.Back.A, g.Back.B, g.Lost)
			for _, x := range g.Steps {
				tell(x.Kind, x.From, x.To, x.GapFrom, x.GapTo, len(x.Slice), len(x.Sets))
				if group.Touches(x, c.Spans) {
					said = append(said, "touches")
				}
				if group.Fresh(c, 7, x, 2) {
					said = append(said, "fresh")
				}
			}
		}
	}
	return said
}

// P3, P6: chains, maps and clocks stay as they are, whatever is done with them, and with what was answered.
func TestChainsStay(t *testing.T) {
	was := chainSay(t)
	room := []api.Range{{At: 1, New: 2}, {At: 4, Old: 1}, {At: 9, Old: 9}}
	m := slices.Clone(room)
	l := chained()
	spans := [][2]int{{0, 3}, {5, 9}, {2, 2}}
	c := group.After(5, spans)
	for range 2 {
		for _, other := range [][]chain.Group{chain.Over(l, room[:2]), chain.Over(l, []api.Range{{Old: -1}}), chain.Copy(l)} {
			for _, g := range other {
				for i, x := range g.Steps {
					_, _ = append(x.Slice, api.Token{Kind: 9}), append(x.Sets, api.Marks{9})
					clear(x.Slice)
					clear(x.Sets)
					g.Steps[i] = api.Step{Kind: 9}
				}
			}
			_ = append(other, chain.Group{Lost: 9})
			clear(other)
		}
		for _, d := range []group.Clock{c.Over(room[:2]), c.Over([]api.Range{{Old: -1}}), c.Shut(), group.After(5, spans)} {
			_ = append(d.Spans, [2]int{7, 7})
			clear(d.Spans)
		}
		if !chain.Same(l, chained()) || !slices.Equal(room, m) || !slices.Equal(spans, [][2]int{{0, 3}, {5, 9}, {2, 2}}) || !slices.Equal(c.Spans, spans) || !c.Open || c.Time != 5 {
			t.Error(c, room)
		}
	}
	if now := chainSay(t); !slices.Equal(now, was) {
		t.Error(now, was)
	}
}
