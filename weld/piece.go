package weld

import (
	"slices"

	"stet/api"
	"stet/clone"
	"stet/step"
)

// farthest is the greatest position of a step.
const farthest = 1 << 30

// piece is a step with lists of its own, to which others may be welded. Whether its shape is right is asked but once, as that takes the longer the more it has grown.
type piece struct {
	api.Step
	shaped bool
}

// begun is a piece of one step.
func begun(x api.Step) piece { return piece{clone.Step(x), step.Shape(x)} }

// seam is a way in which two steps may be one, if their shapes are right, and their tokens aren't too many together.
type seam struct {
	// meet tells whether they stand so, and the step of both doesn't go too far.
	meet func(a, b api.Step) bool
	// one is the step of both, laid in the first one's room, and never in the second one's.
	one func(a, b api.Step) api.Step
}

// seams are all ways, in the order in which they are tried.
func seams() []seam {
	return []seam{
		{meet: goesOn, one: behind},
		{meet: leadsTo, one: ahead},
		{meet: marksOn, one: over},
	}
}

// with is a piece with a step welded to it, if it welds; the piece that was isn't to be asked any more then.
func (p piece) with(x api.Step) (piece, bool) {
	if !p.shaped || !step.Shape(x) || len(p.Slice)+len(x.Slice) > api.MaxSize {
		return piece{}, false
	}
	for _, s := range seams() {
		if s.meet(p.Step, x) {
			return piece{s.one(p.Step, x), true}, true
		}
	}
	return piece{}, false
}

// splices tells whether both are splices.
func splices(a, b api.Step) bool { return a.Kind == api.Splice && b.Kind == api.Splice }

// goesOn tells whether a splice begins where another one's tokens end.
func goesOn(a, b api.Step) bool {
	return splices(a, b) && b.From == a.From+len(a.Slice) && end(a, b) <= farthest
}

// end is the end of a splice that takes away as many more as another one.
func end(a, b api.Step) int { return a.To + b.To - b.From }

// behind is a splice that goes on behind another one's tokens.
func behind(a, b api.Step) api.Step {
	return api.Step{Kind: api.Splice, From: a.From, To: end(a, b), Slice: append(a.Slice, b.Slice...)}
}

// leadsTo tells whether a splice ends where another one begins.
func leadsTo(a, b api.Step) bool { return splices(a, b) && b.To == a.From }

// ahead is a splice that another one goes on ahead of.
func ahead(a, b api.Step) api.Step {
	return api.Step{Kind: api.Splice, From: b.From, To: a.To, Slice: slices.Insert(a.Slice, 0, b.Slice...)}
}

// marksOn tells whether both add, or both remove, one mark with one value, and nothing stands between them.
func marksOn(a, b api.Step) bool {
	marks := a.Kind == api.AddMark || a.Kind == api.RemoveMark
	return marks && a.Kind == b.Kind && a.Mark == b.Mark && a.Value == b.Value && a.From <= b.To && b.From <= a.To
}

// over is a mark from the lesser begin to the greater end.
func over(a, b api.Step) api.Step {
	return api.Step{Kind: a.Kind, From: min(a.From, b.From), To: max(a.To, b.To), Mark: a.Mark, Value: a.Value}
}
