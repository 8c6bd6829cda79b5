package smap

import (
	"iter"

	"stet/api"
)

// shifted is a range of a map that is right, and the shift there.
type shifted struct {
	api.Range
	shift int
}

// all tells a map's ranges by their numbers, each with the shift there.
func all(m []api.Range) iter.Seq2[int, shifted] {
	return func(yield func(int, shifted) bool) {
		shift := 0
		for i, r := range m {
			x := shifted{Range: r, shift: shift}
			if !yield(i, x) {
				return
			}
			shift = x.behind()
		}
	}
}

// end is where its old tokens end.
func (x shifted) end() int { return x.At + x.Old }

// at is where its new tokens begin.
func (x shifted) at() int { return x.At + x.shift }

// behind is the shift behind it.
func (x shifted) behind() int { return x.shift + x.New - x.Old }

// tell is the place of a position from its begin to its end, of the range of that number.
func (x shifted) tell(number, position, side int) Place {
	p := Place{Position: x.to(position, side), Inside: position > x.At && position < x.end()}
	if x.has(position, side) {
		p.Gone, p.Range, p.Offset = true, number, position-x.At
	}
	return p
}

// to is where a position from its begin to its end comes to.
func (x shifted) to(position, side int) int {
	right, last := side >= 0, x.at()+x.New
	switch {
	case position == x.end() && x.Old > 0:
		return last
	case position != x.At && right:
		return last
	case x.Old == 0 && right:
		return last
	}
	return x.at()
}

// has tells whether the token at a position's side is one of its old ones.
func (x shifted) has(position, side int) bool {
	if side < 0 {
		return position > x.At && position <= x.end()
	}
	return position >= x.At && position < x.end()
}
