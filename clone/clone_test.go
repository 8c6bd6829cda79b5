package clone

import (
	"slices"
	"testing"

	"stet/api"
)

// P3: a step's lists are its own, spare room too; all else is as it was, and what has no list has none.
func TestStep(t *testing.T) {
	room, sets := []api.Token{{Kind: 1}, {Kind: 2}, {Kind: 3}}, []api.Marks{{1}, {2}, {3}}
	x := api.Step{Kind: 9, From: -1, To: 2, GapFrom: 3, GapTo: 4, Insert: 5, Mark: 6, Value: 7, Slice: room[:2], Sets: sets[:2]}
	y := Step(x)
	if y.Kind != 9 || y.From != -1 || y.To != 2 || y.GapFrom != 3 || y.GapTo != 4 || y.Insert != 5 || y.Mark != 6 || y.Value != 7 || !slices.Equal(y.Slice, x.Slice) || !slices.Equal(y.Sets, x.Sets) {
		t.Error(y)
	}
	_, _ = append(y.Slice, api.Token{}), append(y.Sets, api.Marks{})
	clear(y.Slice)
	clear(y.Sets)
	if !slices.Equal(room, []api.Token{{Kind: 1}, {Kind: 2}, {Kind: 3}}) || !slices.Equal(sets, []api.Marks{{1}, {2}, {3}}) {
		t.Error(room, sets)
	}
	if z := Step(api.Step{Kind: 1}); z.Slice != nil || z.Sets != nil {
		t.Error(z)
	}
	z := Step(api.Step{Slice: room[:0], Sets: sets[:0]})
	_, _ = append(z.Slice, api.Token{}), append(z.Sets, api.Marks{})
	if room[0].Kind != 1 || sets[0] != (api.Marks{1}) {
		t.Error(room, sets)
	}
}
