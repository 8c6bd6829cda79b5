// Package within tells what stands within nodes, for the layers that take them apart.
package within

import (
	"iter"

	"stet/api"
	"stet/tree"
)

// own is how many tokens of a node aren't within it: its open one and its close.
const own = 2

// Holds tells whether tokens may stand within a node.
func Holds(n *tree.Node) bool { return !n.Leaf() && n.Size() >= own }

// Text tells whether a node is a text; a leaf can be made with the type of texts, too.
func Text(n *tree.Node) bool { return n.Leaf() && len(n.Text()) > 0 }

// Size is how many tokens are within a node.
func Size(n *tree.Node) int {
	if !Holds(n) {
		return 0
	}
	return n.Size() - own
}

// Check tells what is wrong with a stretch of the tokens within a node.
func Check(n *tree.Node, from, to int) api.Errno {
	switch {
	case n == nil:
		return api.ErrNil
	case !Holds(n):
		return api.ErrArg
	case from < 0 || from > to || to > Size(n):
		return api.ErrRange
	}
	return api.OK
}

// Kids tells a node's kids, and where each one begins within it.
func Kids(n *tree.Node) iter.Seq2[int, *tree.Node] {
	return func(yield func(int, *tree.Node) bool) {
		at := 0
		for i := range n.Kids() {
			kid := n.Kid(i)
			if !yield(at, kid) {
				return
			}
			at += kid.Size()
		}
	}
}

// List is a node's kids.
func List(n *tree.Node) []*tree.Node {
	var l []*tree.Node
	for _, kid := range Kids(n) {
		l = append(l, kid)
	}
	return l
}

// Open is the open token of a node that holds tokens.
func Open(n *tree.Node) api.Token {
	t := api.Token{Kind: api.Open, Type: n.Type(), Attr: n.Attr(), Marks: n.Marks()}
	if tree.Same(n, tree.Make(t, List(n)...)) {
		return t
	}
	// A node can be made of an open token that may not be, which is told whole only with all the tokens behind it.
	return n.Whole()[0]
}

// Part is what of a leaf or a text stands from one place to a greater one; places beyond its ends are those ends.
func Part(n *tree.Node, from, to int) *tree.Node {
	from, to = max(from, 0), min(to, n.Size())
	if to-from == n.Size() {
		return n
	}
	var letters []*tree.Node
	for _, t := range n.Whole()[from:to:to] {
		letters = append(letters, tree.Make(t))
	}
	// Letters become one text in a node that has them as kids.
	return tree.Make(api.Token{Kind: api.Open}, letters...).Kid(0)
}

// Tokens tells the tokens from one position to another one within a node, each with the type of the node in which it stands; positions beyond the ends are those ends.
func Tokens(n *tree.Node, from, to int) iter.Seq2[int, api.Token] {
	return func(yield func(int, api.Token) bool) { tell(n, from, to, yield) }
}

// tell tells the tokens between, and whether it wasn't stopped.
func tell(n *tree.Node, from, to int, yield func(int, api.Token) bool) bool {
	for at, kid := range Kids(n) {
		if at >= to {
			break
		}
		if !tellKid(n.Type(), kid, from-at, to-at, yield) {
			return false
		}
	}
	return true
}

// tellKid tells those of a kid, the places told from where it begins.
func tellKid(parent int, kid *tree.Node, from, to int, yield func(int, api.Token) bool) bool {
	from, to = max(from, 0), min(to, kid.Size())
	if from >= to {
		return true
	}
	if kid.Leaf() {
		for _, t := range kid.Whole()[from:to:to] {
			if !yield(parent, t) {
				return false
			}
		}
		return true
	}
	if from == 0 && !yield(parent, Open(kid)) {
		return false
	}
	return tell(kid, from-1, to-1, yield) && (to < kid.Size() || yield(parent, api.Token{Kind: api.Close}))
}
