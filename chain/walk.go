package chain

import (
	"stet/api"
	"stet/smap"
)

// near is more than the positions that steps have; up to it none is too far for a map.
const near = 1 << 31

// bend is a map by what most positions ask of it: those below first stay, those above last are shifted. As each step goes over the maps of all those ahead of it, this is what takes the time.
type bend struct {
	first, last, shift int
	ranges             []api.Range
}

// bent is a map as a bend. One that isn't right, as the inverse of a step's that reaches too far may be, is left out: it turns nothing.
func bent(m []api.Range) bend {
	if len(m) == 0 || !smap.Right(m) {
		return bend{}
	}
	end := m[len(m)-1]
	return bend{first: m[0].At, last: end.At + end.Old, shift: smap.Shift(m), ranges: m}
}

// walk is a position on its way, of a side, and what has become of its token.
type walk struct {
	position, side int
	gone, inside   bool
	fault          api.Errno
}

// over brings a walk over a map, or, if its token is gone there, behind the map's mirror; true, if it goes on behind that.
func (w *walk) over(m, mirror *bend) bool {
	switch {
	case w.position < 0 || w.position >= near:
	case w.position < m.first:
		return false
	case w.position > m.last:
		w.position += m.shift
		return false
	}
	p, e := smap.Tell(m.ranges, w.position, w.side)
	if e != api.OK {
		// It stays where it can't go through, so that it comes over no map behind either.
		w.fault = e
		return false
	}
	if w.recovers(p, mirror) {
		return true
	}
	w.position = p.Position
	w.gone = w.gone || p.Gone
	w.inside = w.inside || p.Inside
	return false
}

// recovers brings a walk to where a mirror brings its token back, if that is gone, and comes back.
func (w *walk) recovers(p smap.Place, mirror *bend) bool {
	if !p.Gone || mirror == nil {
		return false
	}
	at, ok := smap.Recover(mirror.ranges, p.Range, p.Offset)
	if ok {
		w.position = at
	}
	return ok
}
