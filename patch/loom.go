package patch

import (
	"slices"

	"stet/api"
	"stet/schema"
	"stet/token"
	"stet/tree"
	"stet/within"
)

// top is the type of a whole document's node.
const top = 1

// list is nodes that stand side by side.
type list struct{ nodes []*tree.Node }

// add puts nodes behind the others.
func (l *list) add(nodes ...*tree.Node) { l.nodes = append(l.nodes, nodes...) }

// frame is a node that isn't shut yet: its open token, and what stands in it so far.
type frame struct {
	open api.Token
	list
}

// shut is the node that a frame has become.
func (f *frame) shut() *tree.Node { return tree.Make(f.open, f.nodes...) }

// loom is what is woven so far.
type loom struct {
	schema *schema.Schema
	// stack is the nodes that aren't shut yet, the top node first.
	stack []*frame
	// wrong tells whether a token came that may not be, torn whether a close came that shuts nothing.
	wrong, torn bool
}

// begun is a loom with nothing in it.
func begun(s *schema.Schema) *loom {
	return &loom{schema: s, stack: []*frame{{open: api.Token{Kind: api.Open, Type: top}}}}
}

// last is the node in which all that comes stands.
func (w *loom) last() *frame { return w.stack[len(w.stack)-1] }

// open begins a node.
func (w *loom) open(t api.Token) {
	w.wrong = w.wrong || !token.Right(w.schema, t)
	w.stack = append(w.stack, &frame{open: t})
}

// shut ends the last node that isn't shut yet.
func (w *loom) shut() {
	if len(w.stack) == 1 {
		w.torn = true
		return
	}
	n := w.last().shut()
	w.stack = w.stack[:len(w.stack)-1]
	w.last().add(n)
}

// hand hands a node on as it is.
func (w *loom) hand(n *tree.Node) {
	w.wrong = w.wrong || !right(w.schema, n.Whole())
	w.last().add(n)
}

// put puts tokens behind the others: what stands side by side without an open token or a close comes as nodes.
func (w *loom) put(l ...api.Token) {
	for len(l) > 0 {
		n := max(flat(l), 1)
		switch l[0].Kind {
		case api.Open:
			w.open(l[0])
		case api.Close:
			w.shut()
		default:
			nodes, e := tree.Build(w.schema, l[:n])
			w.wrong = w.wrong || e != api.OK
			w.last().add(within.List(nodes)...)
		}
		l = l[n:]
	}
}

// flat is how many tokens stand ahead of the first open token or close.
func flat(l []api.Token) int {
	n := slices.IndexFunc(l, func(t api.Token) bool { return t.Kind == api.Open || t.Kind == api.Close })
	if n < 0 {
		return len(l)
	}
	return n
}

// weave weaves a part of a node.
func (w *loom) weave(n *tree.Node, p Part) {
	if p.Old {
		w.take(n, p.From, p.To)
		return
	}
	w.put(p.New...)
}

// take takes what is from one position to another one within a node, each of which may be beyond its ends.
func (w *loom) take(n *tree.Node, from, to int) {
	for at, kid := range within.Kids(n) {
		if max(at, from) < min(at+kid.Size(), to) {
			w.takeKid(kid, from-at, to-at)
		}
	}
}

// takeKid takes of a kid that has a token between what is between; the places are told from where it begins.
func (w *loom) takeKid(kid *tree.Node, from, to int) {
	begins, ends := from <= 0, to >= kid.Size()
	switch {
	case begins && ends:
		w.hand(kid)
		return
	case kid.Leaf():
		to = min(to, kid.Size())
		w.put(kid.Whole()[max(from, 0):to:to]...)
		return
	case begins:
		w.put(within.Open(kid))
	}
	w.take(kid, from-1, to-1)
	if ends {
		w.put(api.Token{Kind: api.Close})
	}
}

// done is the top node, if all that came is whole; else none.
func (w *loom) done() *tree.Node {
	if w.torn || len(w.stack) > 1 {
		return nil
	}
	n := w.last().shut()
	if depth(n) > api.MaxNest {
		return nil
	}
	return n
}

// depth is how many open tokens within a node aren't shut where they are the most.
func depth(n *tree.Node) int {
	most := 0
	for _, kid := range within.Kids(n) {
		if !kid.Leaf() {
			most = max(most, 1+depth(kid))
		}
	}
	return most
}
