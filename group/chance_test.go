package group

import (
	"math/big"
	"math/rand/v2"
	"slices"
	"testing"

	"stet/api"
	"stet/smap"
	"stet/step"
)

// stepped is a step by chance.
func stepped(chance *rand.Rand) api.Step {
	if chance.IntN(30) == 0 {
		return wrongs()[chance.IntN(len(wrongs()))]
	}
	cuts := []int{chance.IntN(20), chance.IntN(20), chance.IntN(20), chance.IntN(20)}
	slices.Sort(cuts)
	switch kind := 1 + chance.IntN(5); kind {
	case api.Splice:
		return put(cuts[0], cuts[chance.IntN(4)], chance.IntN(3))
	case api.Around:
		if chance.IntN(3) == 0 {
			cuts[2] = cuts[1]
		}
		return around(cuts[0], cuts[1], cuts[2], cuts[3])
	default:
		return marking(kind, cuts[0], cuts[1])
	}
}

// spanned are spans by chance, some of which begin behind their end.
func spanned(chance *rand.Rand) [][2]int {
	var l [][2]int
	for range chance.IntN(4) {
		at := chance.IntN(20)
		l = append(l, [2]int{at, at + chance.IntN(6) - 2})
	}
	return l
}

// touching tells whether a step touches spans, as the words of the chapter say it: of each kind its ranges are told by themselves.
func touching(x api.Step, l [][2]int) bool {
	if !step.Shape(x) {
		return false
	}
	parts := [][2]int{{x.From, x.To}}
	if x.Kind == api.Around && x.GapFrom < x.GapTo {
		parts = [][2]int{{x.From, x.GapFrom}, {x.GapTo, x.To}}
	}
	for _, span := range l {
		for _, p := range parts {
			if p[0] <= span[1] && p[1] >= span[0] {
				return true
			}
		}
	}
	return false
}

// timed is a time by chance, now and then a far one.
func timed(chance *rand.Rand) int64 {
	switch chance.IntN(8) {
	case 0:
		return []int64{least, least + 1, great, great - 1, 0, -1}[chance.IntN(6)]
	case 1:
		return int64(chance.Uint64())
	}
	return int64(chance.IntN(9) - 4)
}

// P36.1: edits by chance against the words of the chapter, reckoned in numbers without bounds.
func TestByChance(t *testing.T) {
	chance := rand.New(rand.NewPCG(36, 1))
	count := map[[4]bool]int{}
	for range 200000 {
		c := Clock{Open: chance.IntN(4) > 0, Time: timed(chance), Spans: spanned(chance)}
		time, delay, x := timed(chance), timed(chance), stepped(chance)
		touched := Touches(x, c.Spans)
		if touched != touching(x, c.Spans) {
			t.Fatalf("%+v touches %v: %v", x, c.Spans, touched)
		}
		apart := new(big.Int).Sub(big.NewInt(time), big.NewInt(c.Time))
		late := apart.Cmp(big.NewInt(max(delay, 0))) > 0
		fresh := Fresh(c, time, x, delay)
		if fresh != (!c.Open || time < c.Time || late || !touched) {
			t.Fatalf("%+v at %d, by %d, behind %+v: %v", x, time, delay, c, fresh)
		}
		if !Fresh(c.Shut(), time, x, delay) || Fresh(After(time, c.Spans), time, x, delay) == touched {
			t.Fatalf("%+v at %d", x, time)
		}
		count[[4]bool{c.Open, time < c.Time, late, touched}]++
	}
	for _, open := range []bool{true, false} {
		for _, touched := range []bool{true, false} {
			for _, k := range [][2]bool{{true, false}, {false, true}, {false, false}} {
				if count[[4]bool{open, k[0], k[1], touched}] < 1000 {
					t.Error(count)
				}
			}
		}
	}
}

// P36.2: clocks by chance over maps, map by map, against the places of each position.
func TestOverByChance(t *testing.T) {
	chance := rand.New(rand.NewPCG(36, 2))
	left, gone := 0, 0
	for range 50000 {
		c := Clock{Open: chance.IntN(2) == 0, Time: timed(chance), Spans: spanned(chance)}
		for range 1 + chance.IntN(3) {
			var m []api.Range
			at := chance.IntN(9)
			for range chance.IntN(4) {
				m = append(m, api.Range{At: at, Old: chance.IntN(4), New: chance.IntN(4)})
				at += m[len(m)-1].Old + 1 + chance.IntN(6)
			}
			want := Clock{Open: c.Open, Time: c.Time}
			for _, span := range c.Spans {
				a, e := smap.Tell(m, span[0], 1)
				b, f := smap.Tell(m, span[1], -1)
				if e != api.OK {
					a.Position = 0
				}
				if f != api.OK {
					b.Position = 0
				}
				if a.Position <= b.Position {
					want.Spans = append(want.Spans, [2]int{a.Position, b.Position})
				}
			}
			d := c.Over(m)
			if !same(d, want) {
				t.Fatalf("%+v over %v: %+v, not %+v", c, m, d, want)
			}
			left += len(d.Spans)
			gone += len(c.Spans) - len(d.Spans)
			c = d
		}
	}
	if left < 40000 || gone < 20000 {
		t.Error(left, gone)
	}
}

// P36.3: behind a shut each edit begins a new group; one at the time and place of the last one doesn't.
func TestGoesOn(t *testing.T) {
	chance := rand.New(rand.NewPCG(36, 3))
	for range 20000 {
		x, time, delay := stepped(chance), timed(chance), timed(chance)
		if !step.Shape(x) {
			continue
		}
		var l [][2]int
		for _, r := range step.Map(x) {
			l = append(l, [2]int{r.At, r.At + r.New})
		}
		if l == nil {
			l = [][2]int{{x.From, x.To}}
		}
		c := After(time, append(spanned(chance), l...))
		at := l[chance.IntN(len(l))]
		for _, one := range []api.Step{put(at[0], at[0], 1), put(at[1], at[1], 1), put(at[0], at[1], 1), marking(api.AddMark, at[0], at[1])} {
			if Fresh(c, time, one, delay) || !Fresh(c.Shut(), time, one, delay) {
				t.Fatal(c, one)
			}
		}
	}
}
