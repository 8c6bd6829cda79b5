package near

import (
	"iter"

	"stet/api"
	"stet/queue"
	"stet/scan"
	"stet/schema"
	"stet/tree"
	"stet/within"
)

// Places are looked for stretch by stretch, each one longer than the one ahead, so that the next place is told soon, and no stretch is too long for what is laid down of it.
const (
	short = 64
	long  = 4096
)

// ground is where places are looked for.
type ground struct {
	schema *schema.Schema
	tree   *tree.Node
	// end is how many positions there are.
	end int
}

// lay is the ground that a tree of a schema is; it has no positions, if one of them is nil.
func lay(s *schema.Schema, n *tree.Node) ground {
	g := ground{schema: s, tree: n}
	if s != nil && within.Holds(n) {
		g.end = within.Size(n) + 1
	}
	return g
}

// around tells the tree itself, and each node in it that has a token between two positions, with the first position within it; an outer one is ahead of those in it.
func (g ground) around(from, to int) iter.Seq2[int, *tree.Node] {
	return func(yield func(int, *tree.Node) bool) {
		if !yield(0, g.tree) {
			return
		}
		for at, n := range scan.Between(g.tree, from, to) {
			if within.Holds(n) && !yield(at+1, n) {
				return
			}
		}
	}
}

// texts tells the places of text from a position to below another one, rising.
func (g ground) texts(from, to int) iter.Seq[api.Sel] {
	takes := make([]bool, to-from)
	for start, n := range g.around(from, to) {
		// What an inner node tells of its positions takes the place of what those around it told.
		for at := max(start, from); at <= min(start+within.Size(n), to-1); at++ {
			takes[at-from] = g.schema.Texts(n.Type())
		}
	}
	return func(yield func(api.Sel) bool) {
		for i, ok := range takes {
			if ok && !yield(api.Sel{Kind: api.SelText, Anchor: from + i, Head: from + i}) {
				return
			}
		}
	}
}

// nodes tells the places of a node from a position to below another one, rising.
func (g ground) nodes(from, to int) iter.Seq[api.Sel] {
	return func(yield func(api.Sel) bool) {
		for at, n := range scan.Between(g.tree, from, to) {
			if at < from || !g.schema.Picks(n.Type()) {
				continue
			}
			if !yield(api.Sel{Kind: api.SelNode, Anchor: at, Head: at + n.Size()}) {
				return
			}
		}
	}
}

// stretch tells the selections at all places from a position to below another one, rising.
func (g ground) stretch(from, to int) iter.Seq[api.Sel] {
	return func(yield func(api.Sel) bool) {
		var waiting queue.Queue[api.Sel]
		// Of one position the queue tells that first which was put in first: a place of text and of a node is that of text.
		for _, row := range []iter.Seq[api.Sel]{g.texts(from, to), g.nodes(from, to)} {
			for x := range row {
				waiting.Put(x.Anchor, x)
			}
		}
		last := -1
		for at, x := range waiting.Drain() {
			if at != last && !yield(x) {
				return
			}
			last = at
		}
	}
}

// places tells the selections at all places from a position on.
func (g ground) places(begin int) iter.Seq[api.Sel] {
	return func(yield func(api.Sel) bool) {
		for from, width := begin, short; from < g.end; width = min(2*width, long) {
			to := min(from+width, g.end)
			for x := range g.stretch(from, to) {
				if !yield(x) {
					return
				}
			}
			from = to
		}
	}
}

// last is the selection at the last place below a position.
func (g ground) last(end int) (api.Sel, bool) {
	found, ok := api.Sel{}, false
	from := max(min(end, g.end), 0)
	for width := short; from > 0 && !ok; width = min(2*width, long) {
		to := from
		from = max(to-width, 0)
		for found = range g.stretch(from, to) {
			ok = true
		}
	}
	return found, ok
}
