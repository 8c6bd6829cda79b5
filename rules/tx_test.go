package rules

import (
	"slices"
	"testing"

	"stet/api"
	"stet/step"
	"stet/token"
	"stet/tree"
	"stet/tx"
	"stet/weld"
	"stet/words"
)

// P1, P2, P5: steps that nobody would mean, of numbers of any size, weld only if their shapes are right, and make one whose shape is.
func TestWelds(t *testing.T) {
	l := steps()
	welded := 0
	for i, a := range l {
		for k := i % 5; k < len(l); k += 5 {
			b := l[k]
			y, ok := weld.Two(a, b)
			if ok {
				welded++
			}
			if ok && (!step.Shape(a) || !step.Shape(b) || !step.Shape(y) || y.Kind != a.Kind || y.Kind != b.Kind || len(y.Slice) != len(a.Slice)+len(b.Slice)) || !ok && !zeroStep(y) {
				t.Errorf("%.200v and %.200v: %.200v, %v", a, b, y, ok)
			}
		}
	}
	if welded < 50 {
		t.Error(welded)
	}
	// What isn't right stands as it is.
	was, got := slices.DeleteFunc(steps(), step.Shape), slices.DeleteFunc(weld.All(l...), step.Shape)
	if !slices.EqualFunc(was, got, step.Same) || len(weld.All()) != 0 {
		t.Error(len(was), len(got))
	}
}

// P1, P2, P5: transactions of nodes of any kind do what step does, and refuse what it refuses.
func TestTransactions(t *testing.T) {
	var none *tx.Tx
	l := steps()
	done := 0
	for _, s := range schemas(t) {
		for k, n := range append(nodes(t)[:9:9], lineTree(compiled(t), `<p=9 b*br link=4*br > *hr <p >`)) {
			x, e := tx.New(s, n)
			if (x == nil) != (e != api.OK) || (e == api.ErrNil) != (s == nil || n == nil) || e != api.OK && e != api.ErrNil && e != api.ErrArg {
				t.Error(k, x, e)
			}
			for i, one := range l {
				if none.Do(one) != api.ErrNil {
					t.Error(k, i)
				}
				if x == nil {
					continue
				}
				m, want := step.Apply(s, x.Doc(), one)
				was, long := x.Doc(), x.Len()
				other := one
				if i%4 == 3 {
					other = l[(i*7+3)%len(l)]
				}
				at, e := x.All(one, other)
				if e != api.OK && (at > 1 || (at == 0) != (want != api.OK) || at == 0 && e != want || x.Doc() != was || x.Len() != long) {
					t.Error(k, i, at, e, want)
				}
				if e == api.OK {
					done++
					if y, f := step.Apply(s, m, other); at != 2 || want != api.OK || f != api.OK || !tree.Same(y, x.Doc()) {
						t.Error(k, i, at, e, f)
					}
				}
			}
			if len(x.Steps()) != x.Len() || len(x.Undo()) != x.Len() || x.Route().Len() != x.Len() || len(x.Changes()) < x.Len() || x.Begin() != n && x != nil {
				t.Error(k, x.Len())
			}
		}
	}
	if done < 10 {
		t.Error(done)
	}
}

// P2: of the errors of transactions the first one is told, by the first step that is wrong.
func TestFirstTxFault(t *testing.T) {
	s := compiled(t)
	n := lineTree(s, `<p *br > *hr`)
	for _, x := range []*tree.Node{nil, n.Kid(0), n} {
		if y, e := tx.New(nil, x); y != nil || e != api.ErrNil {
			t.Error(y, e)
		}
	}
	beyond, wrong, torn := api.Step{Kind: api.Splice, From: 9, To: 9}, api.Step{}, api.Step{Kind: api.Splice, To: 1}
	x, e := tx.New(s, n)
	if e != api.OK {
		t.Fatal(e)
	}
	for _, l := range [][]api.Step{{wrong, beyond, torn}, {beyond, wrong, torn}, {torn, beyond, wrong}} {
		for ahead := range 3 {
			at, e := x.All(append(slices.Repeat([]api.Step{{Kind: api.Splice}}, ahead), l...)...)
			if _, want := step.Apply(s, n, l[0]); at != ahead || e != want || e == api.OK || x.Len() != 0 {
				t.Error(l[0], at, e)
			}
		}
	}
	if at, e := x.All(append(slices.Repeat([]api.Step{{Kind: api.Splice}}, api.MaxSteps), wrong)...); at != api.MaxSteps || e != api.ErrLong {
		t.Error(at, e)
	}
}

// txSay is what is told of a line's transactions, and of what steps weld to, as words.
func txSay(t *testing.T, line string) []string {
	t.Helper()
	s := compiled(t)
	var said []string
	tell := func(l []api.Step) {
		for _, x := range l {
			for _, k := range []int{x.Kind, x.From, x.To, x.GapFrom, x.GapTo, x.Insert, x.Mark, x.Value, len(x.Slice), len(x.Sets)} {
				said = append(said, words.Show(k))
			}
		}
	}
	x, e := tx.New(s, lineTree(s, line))
	said = append(said, e.Error())
	for _, one := range steps() {
		at, e := x.All(one, one)
		said = append(said, words.Show(at), e.Error(), x.Do(one).Error())
	}
	w, _ := token.Show(s, x.Doc().Tokens())
	said = append(said, w, words.Show(x.Len()))
	tell(x.Steps())
	tell(x.Undo())
	tell(weld.All(x.Steps()...))
	tell(weld.All(steps()...))
	for _, c := range x.Changes() {
		said = append(said, words.Show(c[0]), words.Show(c[1]))
	}
	for i := range x.Route().Len() {
		said = append(said, words.Show(len(x.Route().At(i))))
	}
	return said
}

// P3, P6: documents and steps stay as they are, whatever is done by them, and with what was answered.
func TestTransactionsStay(t *testing.T) {
	const line = `<p=9 b*br link=4*br > *hr <p >`
	was := txSay(t, line)
	s := compiled(t)
	n := lineTree(s, line)
	l := steps()
	for range 2 {
		x, e := tx.New(s, n)
		if e != api.OK {
			t.Fatal(e)
		}
		for _, one := range l {
			x.All(one, one)
		}
		for _, list := range [][]api.Step{x.Steps(), x.Undo(), weld.All(l...)} {
			for _, one := range list {
				_, _ = append(one.Slice, api.Token{Kind: 9}), append(one.Sets, api.Marks{9})
				clear(one.Slice)
				clear(one.Sets)
			}
		}
		clear(x.Changes())
		if w, ok := token.Show(s, n.Tokens()); w != line || !ok || !slices.EqualFunc(l, steps(), step.Same) || x.Begin() != n {
			t.Fatal(w)
		}
	}
	if now := txSay(t, line); !slices.Equal(now, was) {
		t.Error(now, was)
	}
}
