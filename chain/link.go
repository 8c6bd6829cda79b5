package chain

import (
	"stet/api"
	"stet/smap"
	"stet/step"
)

// link leads from the document that a step is of to the one that there is instead: back ahead of the step that stands ahead of it, from there as the link ahead leads, and forth over what that step came to. The link of a change alone has none ahead.
type link struct {
	ahead *link
	back  bend
	// forth mirrors back; there is none if the step is lost.
	forth *bend
}

// start is the link of a change alone, by its map.
func start(m []api.Range) *link { return &link{back: bent(m)} }

// behind is the link behind a step that came to another one, or is lost.
func (l *link) behind(x, y api.Step, kept bool) *link {
	m := step.Map(x)
	if len(m) == 0 && !kept {
		// So it is of steps whose shape isn't right, too.
		return l
	}
	next := &link{ahead: l, back: bent(smap.Invert(m))}
	if kept {
		forth := bent(step.Map(y))
		next.forth = &forth
	}
	return next
}

// tell is where a position comes to, and what became of its token.
func (l *link) tell(position, side int) (smap.Place, api.Errno) {
	w := walk{position: position, side: side}
	l.lead(&w)
	if w.fault != api.OK {
		return smap.Place{}, w.fault
	}
	return smap.Place{Position: w.position, Gone: w.gone, Inside: w.inside}, api.OK
}

// lead brings a walk to the document that there is instead.
func (l *link) lead(w *walk) {
	if w.over(&l.back, l.forth) {
		return
	}
	if l.ahead != nil {
		l.ahead.lead(w)
	}
	if l.forth != nil {
		w.over(l.forth, nil)
	}
}
