package slice

import (
	"stet/api"
	"stet/tree"
	"stet/within"
)

// Cut is the tokens between.
func Cut(n *tree.Node, from, to int) (Slice, api.Errno) {
	p, e := cut(n, from, to)
	if e != api.OK {
		return Slice{}, e
	}
	return of(p.tokens), api.OK
}

// Lead is the open tokens that a slice's closes shut.
func Lead(n *tree.Node, from, to int) []api.Token {
	p, _ := cut(n, from, to)
	return p.lead
}

// piece is tokens that are taken out of a node, and the open tokens ahead of them that they shut.
type piece struct{ lead, tokens []api.Token }

// cut is what stands between two positions within a node.
func cut(n *tree.Node, from, to int) (piece, api.Errno) {
	var p piece
	e := within.Check(n, from, to)
	if e == api.OK {
		p.take(n, from, to)
	}
	return p, e
}

// take takes what is from one position to another one within a node, each of which may be beyond its ends.
func (p *piece) take(n *tree.Node, from, to int) {
	for at, kid := range within.Kids(n) {
		if max(at, from) < min(at+kid.Size(), to) {
			p.takeKid(kid, from-at, to-at)
		}
	}
}

// takeKid takes of a kid that has a token between what is between; the places are told from where it begins.
func (p *piece) takeKid(kid *tree.Node, from, to int) {
	begins, ends := from <= 0, to >= kid.Size()
	switch {
	case begins && ends:
		p.tokens = append(p.tokens, kid.Whole()...)
		return
	case kid.Leaf():
		to = min(to, kid.Size())
		p.tokens = append(p.tokens, kid.Whole()[max(from, 0):to:to]...)
		return
	case begins:
		p.tokens = append(p.tokens, within.Open(kid))
	case ends:
		p.lead = append(p.lead, within.Open(kid))
	}
	p.take(kid, from-1, to-1)
	if ends {
		p.tokens = append(p.tokens, api.Token{Kind: api.Close})
	}
}
