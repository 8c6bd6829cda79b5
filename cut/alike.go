package cut

import (
	"stet/api"
	"stet/tree"
	"stet/within"
)

// end is an end of a list: of a place that is counted from there on in a list of so many it tells the index.
type end func(place, n int) int

func front(place, n int) int { return place }

func back(place, n int) int { return n - 1 - place }

// Start is how much is the same from the front on.
func Start(a, b *tree.Node) (int, bool) {
	n := alikeWithin(a, b, front)
	if n == within.Size(a) && n == within.Size(b) {
		return 0, false
	}
	return n, true
}

// End is where all behind is the same.
func End(a, b *tree.Node) (int, int, bool) {
	n := alikeWithin(a, b, back)
	i, j := within.Size(a)-n, within.Size(b)-n
	return i, j, i > 0 || j > 0
}

// alikeWithin is how many tokens within two nodes are the same from an end on.
func alikeWithin(a, b *tree.Node, from end) int {
	count := 0
	for place := range min(a.Kids(), b.Kids()) {
		x, y := a.Kid(from(place, a.Kids())), b.Kid(from(place, b.Kids()))
		n := alike(x, y, from)
		count += n
		// As texts side by side are one, nothing goes on in a kid where another one has ended.
		if n < max(x.Size(), y.Size()) {
			break
		}
	}
	return count
}

// alike is how many of all tokens of two nodes are the same from an end on.
func alike(a, b *tree.Node, from end) int {
	switch {
	case a == b:
		return a.Size()
	case a.Leaf() != b.Leaf():
		return 0
	case a.Leaf():
		return alikeTokens(a.Whole(), b.Whole(), from)
	}
	// Whether their open tokens are the same, and their closes, which are always.
	own := [...]bool{within.Open(a) == within.Open(b), true}
	if !own[from(0, len(own))] {
		return 0
	}
	n := 1 + alikeWithin(a, b, from)
	if n == a.Size()-1 && n == b.Size()-1 && own[from(1, len(own))] {
		n++
	}
	return n
}

// alikeTokens is how many tokens are the same from an end on.
func alikeTokens(a, b []api.Token, from end) int {
	n := 0
	for n < min(len(a), len(b)) && a[from(n, len(a))] == b[from(n, len(b))] {
		n++
	}
	return n
}
