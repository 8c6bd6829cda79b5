// Package clone copies what has lists, for the layers that keep it, or hand it out.
package clone

import (
	"slices"

	"stet/api"
)

// Step is a step like another one, with lists of its own.
func Step(x api.Step) api.Step {
	x.Slice, x.Sets = slices.Clone(x.Slice), slices.Clone(x.Sets)
	return x
}
