package fill

import (
	"stet/queue"
	"stet/schema"
)

// Wrap is what must stand around a kid.
func Wrap(s *schema.Schema, t int, ahead []int, kid int) ([]int, bool) {
	table := s.Table(t)
	state, ok := table.Run(begin, ahead...)
	if !ok {
		return nil, false
	}
	if _, ok := table.Next(state, kid); ok {
		return nil, true
	}
	w := wraps{met: map[int]bool{}}
	for first := range table.Symbols(state).All() {
		w.put(nil, first)
	}
	return w.find(s, kid)
}

// wraps are lists of types of which each next one stands in the one ahead of it.
type wraps struct {
	// waiting are those that may be not long enough, the shortest ones ahead; of as short ones those with the lesser types, as they are put in so.
	waiting queue.Queue[[]int]
	// met are the types that stand last in one: a wrap to the same type behind it is no better.
	met map[int]bool
}

// put puts in a wrap with one more type.
func (w *wraps) put(wrap []int, t int) {
	if !w.met[t] {
		w.met[t] = true
		// Several wraps go on from one: none may use the room behind it.
		wrap = append(wrap[:len(wrap):len(wrap)], t)
		w.waiting.Put(len(wrap), wrap)
	}
}

// find is the first wrap in whose last type a kid may stand alone.
func (w *wraps) find(s *schema.Schema, kid int) ([]int, bool) {
	for {
		wrap, length, ok := w.waiting.Take()
		if !ok {
			return nil, false
		}
		last := wrap[length-1]
		if s.Fits(last, kid) {
			return wrap, true
		}
		for next := range s.Table(last).Symbols(begin).All() {
			if s.Fits(last, next) {
				w.put(wrap, next)
			}
		}
	}
}
