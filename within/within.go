// Package within tells what stands within nodes, for the layers that take them apart.
package within

import (
	"iter"

	"stet/api"
	"stet/tree"
)

// own is how many tokens of a node aren't within it: its open one and its close.
const own = 2

// Holds tells whether tokens may stand within a node.
func Holds(n *tree.Node) bool { return !n.Leaf() && n.Size() >= own }

// Text tells whether a node is a text; a leaf can be made with the type of texts, too.
func Text(n *tree.Node) bool { return n.Leaf() && len(n.Text()) > 0 }

// Size is how many tokens are within a node.
func Size(n *tree.Node) int {
	if !Holds(n) {
		return 0
	}
	return n.Size() - own
}

// Check tells what is wrong with a stretch of the tokens within a node.
func Check(n *tree.Node, from, to int) api.Errno {
	switch {
	case n == nil:
		return api.ErrNil
	case !Holds(n):
		return api.ErrArg
	case from < 0 || from > to || to > Size(n):
		return api.ErrRange
	}
	return api.OK
}

// Kids tells a node's kids, and where each one begins within it.
func Kids(n *tree.Node) iter.Seq2[int, *tree.Node] {
	return func(yield func(int, *tree.Node) bool) {
		at := 0
		for i := range n.Kids() {
			kid := n.Kid(i)
			if !yield(at, kid) {
				return
			}
			at += kid.Size()
		}
	}
}

// List is a node's kids.
func List(n *tree.Node) []*tree.Node {
	var l []*tree.Node
	for _, kid := range Kids(n) {
		l = append(l, kid)
	}
	return l
}

// Open is the open token of a node that holds tokens.
func Open(n *tree.Node) api.Token {
	t := api.Token{Kind: api.Open, Type: n.Type(), Attr: n.Attr(), Marks: n.Marks()}
	if tree.Same(n, tree.Make(t, List(n)...)) {
		return t
	}
	// A node can be made of an open token that may not be, which is told whole only with all the tokens behind it.
	return n.Whole()[0]
}

// Part is what of a leaf or a text stands from one place to a greater one; places beyond its ends are those ends.
func Part(n *tree.Node, from, to int) *tree.Node {
	from, to = max(from, 0), min(to, n.Size())
	if to-from == n.Size() {
		return n
	}
	var letters []*tree.Node
	for _, t := range n.Whole()[from:to:to] {
		letters = append(letters, tree.Make(t))
	}
	// Letters become one text in a node that has them as kids.
	return tree.Make(api.Token{Kind: api.Open}, letters...).Kid(0)
}
