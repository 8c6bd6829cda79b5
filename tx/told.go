package tx

import (
	"slices"

	"stet/api"
	"stet/clone"
	"stet/route"
	"stet/smap"
	"stet/step"
	"stet/tree"
)

// The sides of a position.
const (
	left  = -1
	right = 1
)

// Doc is the document now.
func (t *Tx) Doc() *tree.Node {
	if t == nil {
		return nil
	}
	return t.now
}

// Begin is the document at first.
func (t *Tx) Begin() *tree.Node {
	if t == nil {
		return nil
	}
	return t.begin
}

// all is what was done, of nil nothing.
func (t *Tx) all() []deed {
	if t == nil {
		return nil
	}
	return t.deeds
}

// Len is how many steps were done.
func (t *Tx) Len() int { return len(t.all()) }

// Steps is what was done.
func (t *Tx) Steps() []api.Step {
	var l []api.Step
	for _, d := range t.all() {
		l = append(l, clone.Step(d.Step))
	}
	return l
}

// Undo is what undoes all.
func (t *Tx) Undo() []api.Step {
	var l []api.Step
	for _, d := range slices.Backward(t.all()) {
		l = append(l, clone.Step(d.inverse))
	}
	return l
}

// Route is the maps of what was done.
func (t *Tx) Route() *route.Route {
	if t == nil {
		return nil
	}
	r := &route.Route{}
	for _, d := range t.deeds {
		// A step that was done has a map that is right, and there are fewer steps than a route may have maps.
		r.Add(step.Map(d.Step))
	}
	return r
}

// Changes is where something has changed.
func (t *Tx) Changes() [][2]int {
	var l [][2]int
	all := t.Route()
	for i, d := range t.all() {
		behind := all.From(i + 1)
		for _, c := range d.changes() {
			l = append(l, [2]int{behind.Position(c[0], left), behind.Position(c[1], right)})
		}
	}
	return l
}

// changes is where a step has changed something, in the document right behind it.
func (d deed) changes() [][2]int {
	var l [][2]int
	// The other way round, what is new is what would be taken away.
	for _, r := range smap.Invert(step.Map(d.Step)) {
		l = append(l, [2]int{r.At, r.At + r.Old})
	}
	if l == nil {
		l = append(l, [2]int{d.From, d.To})
	}
	return l
}
