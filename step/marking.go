package step

import (
	"slices"

	"stet/api"
	"stet/marks"
	"stet/patch"
	"stet/schema"
	"stet/token"
	"stet/tree"
	"stet/within"
)

// marking is a step that turns marks alone.
type marking struct{ api.Step }

// ranges is no map: all stays where it is.
func (x marking) ranges() []api.Range { return nil }

// inverse gives back the marks that were there.
func (x marking) inverse(s *schema.Schema, n *tree.Node) api.Step {
	y := api.Step{Kind: api.Remark, From: x.From, To: x.To}
	for _, t := range within.Tokens(n, x.From, x.To) {
		if !token.Inline(s, t) {
			t.Marks = api.Marks{}
		}
		y.Sets = append(y.Sets, t.Marks)
	}
	return y
}

// turned is a document of which each inline token has the set that a function tells: how far behind From the token is, in what type, and the set that it had.
func (x marking) turned(s *schema.Schema, n *tree.Node, set func(at, parent int, has api.Marks) api.Marks) (*tree.Node, api.Errno) {
	if within.Size(n) > api.MaxSize {
		return nil, api.ErrLong
	}
	var was, now []api.Token
	for parent, t := range within.Tokens(n, x.From, x.To) {
		was = append(was, t)
		if token.Inline(s, t) {
			t.Marks = set(len(now), parent, t.Marks)
		}
		now = append(now, t)
	}
	from, to := differ(was, now)
	return patch.Splice(s, n, x.From+from, x.From+to, now[from:to])
}

// differ is the stretch outside of which as many tokens are the same: what is outside is handed on as it is.
func differ(a, b []api.Token) (from, to int) {
	to = len(a)
	for from < to && a[from] == b[from] {
		from++
	}
	for from < to && a[to-1] == b[to-1] {
		to--
	}
	return from, to
}

// oneMark is a step that has a mark with a value.
type oneMark struct{ marking }

func (x oneMark) formed() bool { return true }

func (x oneMark) meant() api.Step {
	return api.Step{Kind: x.Kind, From: x.From, To: x.To, Mark: x.Mark, Value: x.Value}
}

// may tells whether the mark can have the value: then it can be added where no other one bars it.
func (x oneMark) may(s *schema.Schema) bool {
	_, ok := marks.Add(s, api.Marks{}, x.Mark, x.Value)
	return ok
}

// done does something to the sets of all tokens in whose parents the mark may be.
func (x oneMark) done(s *schema.Schema, n *tree.Node, what func(has api.Marks) (api.Marks, bool)) (*tree.Node, api.Errno) {
	return x.turned(s, n, func(_, parent int, has api.Marks) api.Marks {
		if s.Allows(parent, x.Mark) {
			// Where it can't be done, the set that was is told.
			has, _ = what(has)
		}
		return has
	})
}

// adding adds a mark.
type adding struct{ oneMark }

func (x adding) apply(s *schema.Schema, n *tree.Node) (*tree.Node, api.Errno) {
	return x.done(s, n, func(has api.Marks) (api.Marks, bool) { return marks.Add(s, has, x.Mark, x.Value) })
}

// removing removes a mark.
type removing struct{ oneMark }

func (x removing) apply(s *schema.Schema, n *tree.Node) (*tree.Node, api.Errno) {
	return x.done(s, n, func(has api.Marks) (api.Marks, bool) { return marks.Remove(has, x.Mark, x.Value) })
}

// remark gives each token a set of its own.
type remark struct{ marking }

func (x remark) formed() bool { return len(x.Sets) == x.To-x.From && len(x.Sets) <= api.MaxSize }

func (x remark) meant() api.Step {
	return api.Step{Kind: x.Kind, From: x.From, To: x.To, Sets: x.Sets}
}

func (x remark) may(s *schema.Schema) bool {
	return !slices.ContainsFunc(x.Sets, func(set api.Marks) bool { return !marks.Right(s, set) })
}

func (x remark) apply(s *schema.Schema, n *tree.Node) (*tree.Node, api.Errno) {
	at := 0
	for _, t := range within.Tokens(n, x.From, x.To) {
		if x.Sets[at] != (api.Marks{}) && !token.Inline(s, t) {
			return nil, api.ErrMark
		}
		at++
	}
	return x.turned(s, n, func(at, _ int, _ api.Marks) api.Marks { return x.Sets[at] })
}
