package rules

import (
	"slices"
	"testing"

	"stet/api"
	"stet/route"
	"stet/shift"
	"stet/smap"
	"stet/step"
	"stet/token"
	"stet/words"
)

// steps are steps that nobody would mean, and some that are right.
func steps() []api.Step {
	row := []api.Token{{Kind: api.Close}, {Kind: api.Open, Type: 2}}
	l := []api.Step{
		{}, {Kind: api.Splice}, {Kind: api.Splice, From: 1, To: 3, Slice: []api.Token{}}, {Kind: api.Splice, From: 1, To: 1, Slice: row}, {Kind: api.Splice, Slice: make([]api.Token, 70000)},
		{Kind: api.Around, To: 5, GapFrom: 1, GapTo: 4}, {Kind: api.Around, From: 1, To: 3, GapFrom: 1, GapTo: 3, Insert: 1, Slice: row}, {Kind: api.AddMark, To: 5, Mark: 1, Value: 9}, {Kind: api.RemoveMark, To: 5}, {Kind: api.Remark, From: 1, To: 3, Sets: make([]api.Marks, 2)}, {Kind: api.Remark, From: 1, To: 2, Sets: []api.Marks{{1}}}, {Kind: api.Remark, To: 70000, Sets: make([]api.Marks, 70000)},
	}
	for _, n := range append(numbers(), 1<<30, 1<<30+1, 1<<32+1, 1<<32+3) {
		l = append(l, api.Step{Kind: n}, api.Step{Kind: n, From: n, To: n, GapFrom: n, GapTo: n, Insert: n, Mark: n, Value: n})
		for kind := range 7 {
			l = append(l, api.Step{Kind: kind, From: n, To: n}, api.Step{Kind: kind, To: n, Slice: row}, api.Step{Kind: kind, From: 1, To: 3, GapFrom: n, GapTo: n, Insert: n}, api.Step{Kind: kind, To: 3, GapTo: n, Insert: 1, Slice: row}, api.Step{Kind: kind, Mark: n, Value: n}, api.Step{Kind: kind, Mark: 1, Value: n}, api.Step{Kind: kind, From: n, To: n + 1, Sets: []api.Marks{{}}}, api.Step{Kind: kind, From: n, To: 2, Sets: sets()})
		}
	}
	return l
}

// zeroStep tells whether a step is a zero one.
func zeroStep(x api.Step) bool { return step.Same(x, api.Step{}) }

// P1, P2, P5: steps that nobody would mean, of numbers of any size, are done to nodes of any kind, and undone, or are refused.
func TestSteps(t *testing.T) {
	all := append(nodes(t)[:9:9], lineTree(compiled(t), `<p=9 b*br link=4*br > *hr <p >`))
	done := 0
	for i, x := range steps() {
		if m := step.Map(x); !smap.Right(m) || len(m) > 0 && !step.Shape(x) || !step.Same(x, x) {
			t.Error(i, m)
		}
		for _, s := range schemas(t) {
			right := step.Right(s, x)
			if right && (s == nil || !step.Shape(x)) {
				t.Error(i, x)
			}
			for k, n := range all {
				m, e := step.Apply(s, n, x)
				y, f := step.Invert(s, n, x)
				switch {
				case e != f || (m == nil) != (e != api.OK) || e != api.OK && !zeroStep(y):
					t.Error(i, k, m, e, y, f)
				case (e == api.ErrNil) != (s == nil || n == nil) || s != nil && n != nil && !right && e != api.ErrArg:
					t.Error(i, k, e)
				case right && n != nil && x.To > len(n.Tokens()) && e != api.ErrRange:
					t.Error(i, k, e)
				case e == api.OK && !slices.Equal(step.Map(y), smap.Invert(step.Map(x))):
					t.Error(i, k, y)
				case e == api.OK:
					done++
				}
			}
		}
	}
	if done < 10 {
		t.Error(done)
	}
}

// P1, P2, P5: such steps through such maps, and by functions that tell anything, are lost, or right still.
func TestShifts(t *testing.T) {
	l := steps()
	gone := 0
	check := func(x, y api.Step, ok bool) {
		t.Helper()
		if ok {
			gone++
		}
		if ok && (!step.Shape(x) || !step.Shape(y) || y.Kind != x.Kind || len(y.Slice) != len(x.Slice) || len(y.Sets) != len(x.Sets)) || !ok && !zeroStep(y) {
			t.Errorf("%+v: %+v, %v", x, y, ok)
		}
	}
	for i, x := range l {
		for _, m := range rangeLists() {
			y, ok := shift.Over(x, m)
			if check(x, y, ok); ok && !smap.Right(m) {
				t.Error(i, y)
			}
		}
		y, ok := shift.Past(x, l[(i*7+3)%len(l)])
		check(x, y, ok)
		for _, n := range append(numbers(), 1<<30, 1<<40) {
			y, ok = shift.By(x, func(position, side int) (smap.Place, api.Errno) {
				return smap.Place{Position: position + n, Range: n, Offset: n}, api.OK
			})
			check(x, y, ok)
			if y, ok = shift.By(x, func(int, int) (smap.Place, api.Errno) { return smap.Place{Position: 1}, api.Errno(max(n, -9)) }); ok && n != 0 {
				t.Error(i, n, y)
			}
		}
		if y, ok = shift.By(x, nil); ok || !zeroStep(y) {
			t.Error(i, y)
		}
		if y, ok = shift.Through(x, nil); ok || !zeroStep(y) {
			t.Error(i, y)
		}
		y, ok = shift.Through(x, &route.Route{})
		if check(x, y, ok); ok && !step.Same(x, y) {
			t.Error(i, y)
		}
	}
	if gone < 100 {
		t.Error(gone)
	}
}

// P2: of the errors of steps the first one is told.
func TestFirstStepFault(t *testing.T) {
	s := compiled(t)
	n := lineTree(s, `<p *br > *hr`)
	wrong := []api.Marks{{1}, {0, 0, 1}, {2}}
	for _, x := range []struct {
		x    api.Step
		want api.Errno
	}{
		{api.Step{Kind: api.Remark, From: 2, To: 5, Sets: wrong}, api.ErrArg}, {api.Step{Kind: api.Remark, From: 3, To: 5, Sets: wrong[:2]}, api.ErrRange}, {api.Step{Kind: api.Remark, From: 1, To: 3, Sets: wrong[:2]}, api.ErrMark}, {api.Step{Kind: api.Splice, From: 1, To: 2, Slice: token.Text('a')}, api.ErrFit}, {api.Step{Kind: api.Splice, From: 1, To: 3, Slice: token.Text('a')}, api.ErrOpen}, {api.Step{Kind: api.Splice, From: 1, To: 5, Slice: token.Text(-1)}, api.ErrArg}, {api.Step{Kind: api.Splice, From: 1, To: 5, Slice: token.Text('a')}, api.ErrRange},
	} {
		if m, e := step.Apply(s, n, x.x); m != nil || e != x.want {
			t.Error(x.x, m, e)
		}
		if m, e := step.Apply(nil, n, x.x); m != nil || e != api.ErrNil {
			t.Error(x.x, m, e)
		}
		if y, e := step.Invert(s, n, x.x); !zeroStep(y) || e != x.want {
			t.Error(x.x, y, e)
		}
	}
}

// stepSay is what is told of a line's tree by what steps make of it, and of where these go, as words.
func stepSay(t *testing.T, line string) []string {
	t.Helper()
	s := compiled(t)
	n := lineTree(s, line)
	var said []string
	tell := func(x api.Step) {
		for _, k := range []int{x.Kind, x.From, x.To, x.GapFrom, x.GapTo, x.Insert, x.Mark, x.Value, len(x.Sets)} {
			said = append(said, words.Show(k))
		}
		w, _ := token.Show(s, x.Slice)
		said = append(said, w)
	}
	for _, x := range steps() {
		m, e := step.Apply(s, n, x)
		y, f := step.Invert(s, n, x)
		w, _ := token.Show(s, m.Tokens())
		said = append(said, w, e.Error(), f.Error())
		tell(y)
		z, _ := shift.Past(x, api.Step{Kind: api.Splice, From: 1, To: 2, Slice: make([]api.Token, 3)})
		tell(z)
		for _, r := range step.Map(x) {
			said = append(said, words.Show(r.At), words.Show(r.Old), words.Show(r.New))
		}
	}
	return said
}

// P3, P6: trees and steps stay as they are, whatever is done with them, and with what was answered.
func TestStepsStay(t *testing.T) {
	const line = `<p=9 b*br link=4*br > *hr <p >`
	was := stepSay(t, line)
	s := compiled(t)
	n := lineTree(s, line)
	l, before := steps(), steps()
	for range 2 {
		for i, x := range l {
			m, _ := step.Apply(s, n, x)
			y, _ := step.Invert(s, n, x)
			z, _ := shift.Over(x, []api.Range{{At: 9, New: 1}})
			clear(step.Map(x))
			clear(m.Tokens())
			for _, one := range []api.Step{y, z} {
				_, _ = append(one.Slice, api.Token{Kind: 9}), append(one.Sets, api.Marks{9})
				clear(one.Slice)
				clear(one.Sets)
			}
			if !step.Same(x, before[i]) {
				t.Fatal(i, x)
			}
		}
		if w, ok := token.Show(s, n.Tokens()); w != line || !ok {
			t.Fatal(w)
		}
	}
	if now := stepSay(t, line); !slices.Equal(now, was) {
		t.Error(now, was)
	}
}
