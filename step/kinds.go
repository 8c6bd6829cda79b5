package step

import (
	"stet/api"
	"stet/patch"
	"stet/schema"
	"stet/token"
	"stet/tree"
	"stet/within"
)

// kind is a step of one of the kinds. Only of one whose shape is right it is asked what it brings, and what it does.
type kind interface {
	// formed tells whether the fields of its kind go together, its ends taken as right.
	formed() bool
	// meant is the step with what is told of its kind, and nothing else.
	meant() api.Step
	// may tells whether all that it brings may be in a schema.
	may(s *schema.Schema) bool
	// ranges is its map.
	ranges() []api.Range
	// apply is a document, beyond whose end it doesn't go, with what it does.
	apply(s *schema.Schema, n *tree.Node) (*tree.Node, api.Errno)
	// inverse is what undoes it, of a document to which it may be done.
	inverse(s *schema.Schema, n *tree.Node) api.Step
}

// kindOf is a step by its kind.
func kindOf(x api.Step) (kind, bool) {
	switch x.Kind {
	case api.Splice:
		return splice{laying{x}}, true
	case api.Around:
		return around{laying{x}}, true
	case api.AddMark:
		return adding{oneMark{marking{x}}}, true
	case api.RemoveMark:
		return removing{oneMark{marking{x}}}, true
	case api.Remark:
		return remark{marking{x}}, true
	}
	return nil, false
}

// laying is a step that lays tokens.
type laying struct{ api.Step }

// may tells whether the tokens may be.
func (x laying) may(s *schema.Schema) bool {
	_, ok := token.All(s, x.Slice)
	return ok
}

// ranges is the map of a step that leaves nothing between its ends.
func (x laying) ranges() []api.Range {
	return []api.Range{{At: x.From, Old: x.To - x.From, New: len(x.Slice)}}
}

// tokens is what stands from one position to another one.
func tokens(n *tree.Node, from, to int) []api.Token {
	var l []api.Token
	for _, t := range within.Tokens(n, from, to) {
		l = append(l, t)
	}
	return l
}

// splice lays tokens for others.
type splice struct{ laying }

func (x splice) formed() bool { return true }

func (x splice) meant() api.Step {
	return api.Step{Kind: x.Kind, From: x.From, To: x.To, Slice: x.Slice}
}

func (x splice) apply(s *schema.Schema, n *tree.Node) (*tree.Node, api.Errno) {
	return patch.Splice(s, n, x.From, x.To, x.Slice)
}

func (x splice) inverse(_ *schema.Schema, n *tree.Node) api.Step {
	return api.Step{Kind: x.Kind, From: x.From, To: x.From + len(x.Slice), Slice: tokens(n, x.From, x.To)}
}

// around lays tokens for those ahead of a gap, and for those behind it.
type around struct{ laying }

func (x around) formed() bool {
	return x.From <= x.GapFrom && x.GapFrom <= x.GapTo && x.GapTo <= x.To && x.Insert >= 0 && x.Insert <= len(x.Slice)
}

func (x around) meant() api.Step {
	return api.Step{Kind: x.Kind, From: x.From, To: x.To, GapFrom: x.GapFrom, GapTo: x.GapTo, Insert: x.Insert, Slice: x.Slice}
}

func (x around) ranges() []api.Range {
	if x.GapFrom == x.GapTo {
		return x.laying.ranges()
	}
	return []api.Range{
		{At: x.From, Old: x.GapFrom - x.From, New: x.Insert},
		{At: x.GapTo, Old: x.To - x.GapTo, New: len(x.Slice) - x.Insert},
	}
}

func (x around) apply(s *schema.Schema, n *tree.Node) (*tree.Node, api.Errno) {
	ahead, behind := patch.Put(x.Slice[:x.Insert]...), patch.Put(x.Slice[x.Insert:]...)
	return patch.Weave(s, n, patch.Keep(0, x.From), ahead, patch.Keep(x.GapFrom, x.GapTo), behind, patch.Keep(x.To, within.Size(n)))
}

func (x around) inverse(_ *schema.Schema, n *tree.Node) api.Step {
	ahead, behind := tokens(n, x.From, x.GapFrom), tokens(n, x.GapTo, x.To)
	gapFrom := x.From + x.Insert
	gapTo := gapFrom + x.GapTo - x.GapFrom
	return api.Step{
		Kind: x.Kind, From: x.From, To: gapTo + len(x.Slice) - x.Insert,
		GapFrom: gapFrom, GapTo: gapTo, Insert: len(ahead), Slice: append(ahead, behind...),
	}
}
