package fill

import (
	"slices"

	"stet/api"
	"stet/least"
	"stet/schema"
)

const (
	// text is the type of texts, which have no price.
	text = 0
	// none stands for the price that there isn't: a type of that may not be had.
	none = -1
	// leafPrice is how many tokens a leaf is.
	leafPrice = 1
	// ownPrice is how many tokens of a node aren't within it: its open one and its close.
	ownPrice = 2
)

// filling is what a schema's types are filled with, and cost, by their numbers.
type filling struct {
	schema *schema.Schema
	prices []int
	// words are what stands in the types.
	words [][]int
}

// newFilling is the least filling of all types.
func newFilling(s *schema.Schema) *filling {
	types := s.Types() + 1
	f := &filling{schema: s, prices: slices.Repeat([]int{none}, types), words: make([][]int, types)}
	settle(types, f.turn)
	return f
}

// settle has each type turned again and again, till none turns any more.
func settle(types int, turn func(t int) bool) {
	for turned := true; turned; {
		turned = false
		// What stands in a type is mostly declared behind it: from the last type on there are few rounds.
		for t := types - 1; t >= 0; t-- {
			if turn(t) {
				turned = true
			}
		}
	}
}

// turn finds a type's word and price by the prices as they are, and tells whether the price turns. Prices begin as none and only fall, so that this ends; the words of the last round, in which no price turns, are the best ones.
func (f *filling) turn(t int) bool {
	was := f.prices[t]
	switch {
	case t == text:
	case f.schema.Leaf(t):
		f.prices[t] = leafPrice
	default:
		if word, price, ok := least.Word(f.schema.Table(t), begin, f.prices); ok {
			f.words[t], f.prices[t] = word, price+ownPrice
		}
	}
	return f.prices[t] != was
}

// price is a type's price.
func (f *filling) price(t int) (int, bool) {
	if t < 0 || t >= len(f.prices) || f.prices[t] == none {
		return 0, false
	}
	return f.prices[t], true
}

// lay puts a node of a type that has a price behind other tokens.
func (f *filling) lay(l []api.Token, t int) []api.Token {
	if f.schema.Leaf(t) {
		return append(l, api.Token{Kind: api.Leaf, Type: t})
	}
	l = append(l, api.Token{Kind: api.Open, Type: t})
	// A type is dearer than all that stands in it, so that this ends.
	for _, kid := range f.words[t] {
		l = f.lay(l, kid)
	}
	return append(l, api.Token{Kind: api.Close})
}
