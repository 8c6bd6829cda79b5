package rules

import (
	"slices"
	"testing"

	"stet/api"
	"stet/diff"
	"stet/moves"
	"stet/patch"
	"stet/schema"
	"stet/step"
	"stet/token"
	"stet/tree"
	"stet/words"
)

// moved are the moves of a node by two numbers, in the order of the chapter.
func moved() []func(s *schema.Schema, n *tree.Node, at, by int) (api.Step, api.Errno) {
	return []func(s *schema.Schema, n *tree.Node, at, by int) (api.Step, api.Errno){
		moves.Split,
		func(s *schema.Schema, n *tree.Node, at, by int) (api.Step, api.Errno) { return moves.Join(s, n, at) },
		func(s *schema.Schema, n *tree.Node, at, by int) (api.Step, api.Errno) { return moves.Lift(s, n, at) },
		func(s *schema.Schema, n *tree.Node, at, by int) (api.Step, api.Errno) {
			return moves.Wrap(s, n, at, by, 2, 0)
		},
		func(s *schema.Schema, n *tree.Node, at, by int) (api.Step, api.Errno) {
			return moves.Wrap(s, n, 0, 0, at, by)
		},
		func(s *schema.Schema, n *tree.Node, at, by int) (api.Step, api.Errno) {
			return moves.Retype(s, n, at, by, by)
		},
		func(s *schema.Schema, n *tree.Node, at, by int) (api.Step, api.Errno) {
			return moves.Retype(s, n, 5, at, by)
		},
	}
}

// P1, P2, P5: moves of nodes that nobody would mean, by numbers of any size, which aren't let go round, may be done, or are none.
func TestMoves(t *testing.T) {
	more := append(numbers(), 3, 4, 5, 6, 1<<32, 1<<32+1, 1<<32+2)
	all := append(nodes(t)[:30:30], lineTree(compiled(t), `<p=9 b*br link=4*br > *hr <p >`))
	done := 0
	for _, s := range schemas(t) {
		for i, n := range all {
			for k, move := range moved() {
				for _, at := range more {
					for _, by := range more {
						x, e := move(s, n, at, by)
						if (e == api.ErrNil) != (s == nil || n == nil) || e != api.OK && !zeroStep(x) {
							t.Fatal(i, k, at, by, x, e)
						}
						if e != api.OK {
							continue
						}
						done++
						if _, f := step.Apply(s, n, x); f != api.OK || !step.Right(s, x) {
							t.Fatal(i, k, at, by, x, f)
						}
					}
				}
			}
		}
	}
	if done < 20 {
		t.Error(done)
	}
}

// P1: rows of tokens that nobody would mean differ by what makes one of the other.
func TestDiffs(t *testing.T) {
	all := tokens()
	rows := [][]api.Token{nil, {}, all, all[:100], all[50:], slices.Repeat(all[:3], 40), make([]api.Token, 70000)}
	for _, a := range rows {
		for _, b := range rows {
			var made []api.Token
			parts := diff.Parts(a, b)
			for _, p := range parts {
				if p.Old {
					made = append(made, a[p.From:p.To]...)
				}
				made = append(made, p.New...)
			}
			if !token.Same(made, b) || diff.Kept(parts) > min(len(a), len(b)) {
				t.Errorf("%d and %d: %d", len(a), len(b), diff.Kept(parts))
			}
			x, ok := diff.One(a, b)
			if ok == token.Same(a, b) || !ok && !zeroStep(x) || ok && !token.Same(slices.Concat(a[:x.From], x.Slice, a[x.To:]), b) {
				t.Errorf("%d and %d: %d to %d, %v", len(a), len(b), x.From, x.To, ok)
			}
		}
	}
	for _, n := range numbers() {
		for _, k := range numbers() {
			if got := diff.Kept([]patch.Part{patch.Keep(n, k), {From: n, To: k, New: all}}); n >= k && got != 0 || n == 0 && k > 0 && got != k {
				t.Error(n, k, got)
			}
		}
	}
}

// P2: of the errors of moves the first one is told.
func TestFirstMoveFault(t *testing.T) {
	s := compiled(t)
	n := lineTree(s, `<p *br > *hr`)
	for want, f := range map[api.Errno]func(s *schema.Schema) (api.Step, api.Errno){
		api.ErrRange: func(s *schema.Schema) (api.Step, api.Errno) { return moves.Wrap(s, n, 0, 2, -1, -1) },
		api.ErrArg:   func(s *schema.Schema) (api.Step, api.Errno) { return moves.Wrap(s, n, 1, 2, -1, -1) },
		api.ErrFit:   func(s *schema.Schema) (api.Step, api.Errno) { return moves.Wrap(s, n, 1, 2, 2, 9) },
	} {
		if x, e := f(s); e != want || !zeroStep(x) {
			t.Error(x, e, want)
		}
		if x, e := f(nil); e != api.ErrNil || !zeroStep(x) {
			t.Error(x, e)
		}
	}
}

// moveSay is what is told of a line's tree by its moves, and by how it differs from what they make, as words.
func moveSay(t *testing.T, line string) []string {
	t.Helper()
	s := compiled(t)
	n := lineTree(s, line)
	var said []string
	tell := func(x api.Step) {
		for _, k := range []int{x.Kind, x.From, x.To, x.GapFrom, x.GapTo, x.Insert} {
			said = append(said, words.Show(k))
		}
		w, _ := token.Show(s, x.Slice)
		said = append(said, w)
	}
	for _, move := range moved() {
		for at := range n.Size() {
			for _, by := range []int{1, at, 2, 4} {
				x, e := move(s, n, at, by)
				said = append(said, e.Error())
				tell(x)
				m, _ := step.Apply(s, n, x)
				one, _ := diff.One(n.Tokens(), m.Tokens())
				tell(one)
				for _, p := range diff.Parts(n.Tokens(), m.Tokens()) {
					w, _ := token.Show(s, p.New)
					said = append(said, w, words.Show(p.From), words.Show(p.To))
				}
			}
		}
	}
	return said
}

// P3, P6: documents and rows stay as they are, whatever is told of them, and done with what was answered.
func TestMovesStay(t *testing.T) {
	const line = `<p=9 b*br link=4*br > *hr <p >`
	was := moveSay(t, line)
	s := compiled(t)
	n := lineTree(s, line)
	a, b := n.Tokens(), slices.Repeat(n.Tokens(), 2)
	for range 2 {
		for _, move := range moved() {
			for at := range n.Size() {
				x, _ := move(s, n, at, 1)
				_ = append(x.Slice, api.Token{Kind: 9})
				clear(x.Slice)
			}
		}
		one, _ := diff.One(a, b)
		clear(one.Slice)
		for _, p := range diff.Parts(a, b) {
			_ = append(p.New, api.Token{Kind: 9})
			clear(p.New)
		}
		if w, ok := token.Show(s, n.Tokens()); w != line || !ok || !token.Same(a, n.Tokens()) || !token.Same(b, slices.Repeat(a, 2)) {
			t.Fatal(w)
		}
	}
	if now := moveSay(t, line); !slices.Equal(now, was) {
		t.Error(now, was)
	}
}
