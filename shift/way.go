package shift

import (
	"stet/api"
	"stet/smap"
)

// way tells what positions come to.
type way func(position, side int) (smap.Place, api.Errno)

// both is what two positions come to, if both can go through.
func (w way) both(a, sideOfA, b, sideOfB int) (smap.Place, smap.Place, bool) {
	p, e := w(a, sideOfA)
	q, f := w(b, sideOfB)
	return p, q, e == api.OK && f == api.OK
}

// gone is a step whose shape is right, gone where the way leads; its lists are those of the step, and whether its shape is right then isn't asked.
func (w way) gone(x api.Step) (api.Step, bool) {
	from, to, ok := w.both(x.From, right, x.To, left)
	if !ok || from.Inside && to.Inside {
		return api.Step{}, false
	}
	y := x
	y.From = from.Position
	switch x.Kind {
	case api.Around:
		if y.GapFrom, y.GapTo, ok = w.gap(x, to.Position); !ok {
			return api.Step{}, false
		}
		fallthrough
	case api.Splice:
		y.To = max(to.Position, y.From)
		return y, true
	case api.Remark:
		y.To = y.From + x.To - x.From
		return y, w.keeps(x, y.From)
	}
	y.To = to.Position
	return y, y.To > y.From
}

// gap is where the gap of an around comes to, if that is not beyond where To comes to by itself; how else the ends and the gap must stand is asked by the shape.
func (w way) gap(x api.Step, to int) (int, int, bool) {
	from, behind, ok := w.both(x.GapFrom, left, x.GapTo, right)
	return from.Position, behind.Position, ok && behind.Position <= to
}

// keeps tells whether all of a step's tokens are there still, one behind the other from a position on.
func (w way) keeps(x api.Step, from int) bool {
	for at := range x.To - x.From {
		if p, e := w(x.From+at, right); e != api.OK || p.Gone || p.Position != from+at {
			return false
		}
	}
	return true
}
