package weld

import (
	"slices"
	"testing"

	"stet/api"
	"stet/step"
	"stet/token"
)

const (
	most  = 1 << 30
	least = -1 << 63
	great = 1<<63 - 1
)

// splice is a splice of letters.
func splice(from, to int, letters string) api.Step {
	return api.Step{Kind: api.Splice, From: from, To: to, Slice: token.Text([]rune(letters)...)}
}

// blank is a splice of so many tokens.
func blank(from, to, n int) api.Step {
	return api.Step{Kind: api.Splice, From: from, To: to, Slice: make([]api.Token, n)}
}

// added is a mark added.
func added(from, to, mark, value int) api.Step {
	return api.Step{Kind: api.AddMark, From: from, To: to, Mark: mark, Value: value}
}

// removed is a mark removed.
func removed(from, to, mark, value int) api.Step {
	return api.Step{Kind: api.RemoveMark, From: from, To: to, Mark: mark, Value: value}
}

// others are steps of the kinds that weld with none.
func others() []api.Step {
	return []api.Step{
		{Kind: api.Around, From: 3, To: 6, GapFrom: 3, GapTo: 6, Insert: 1, Slice: make([]api.Token, 2)}, {Kind: api.Around, From: 3, To: 3, GapFrom: 3, GapTo: 3},
		{Kind: api.Remark, From: 3, To: 5, Sets: make([]api.Marks, 2)}, {Kind: api.Remark, From: 3, To: 3}, {Kind: api.Remark, From: 5, To: 6, Sets: []api.Marks{{1}}},
	}
}

// wrongs are steps whose shape isn't right.
func wrongs() []api.Step {
	return []api.Step{
		{}, {Kind: 6, From: 3, To: 3}, {Kind: -1}, splice(4, 3, ""), splice(-1, 3, "a"), splice(-3, -3, ""), blank(3, most+1, 0), blank(3, 3, 20001), {Kind: api.Splice, From: 3, To: 3, Mark: 1}, {Kind: api.Splice, From: 3, To: 3, Value: 1}, {Kind: api.Splice, From: 3, To: 3, Insert: 1}, {Kind: api.Splice, From: 3, To: 3, GapFrom: 3, GapTo: 3}, {Kind: api.Splice, From: 3, To: 3, Sets: make([]api.Marks, 1)},
		added(4, 3, 0, 0), added(-1, 3, 0, 0), added(3, most+1, 0, 0), {Kind: api.AddMark, From: 3, To: 3, Slice: make([]api.Token, 1)}, removed(4, 3, 0, 0), {Kind: api.RemoveMark, From: 3, To: 3, Sets: make([]api.Marks, 1)}, {Kind: api.Remark, From: 3, To: 4}, {Kind: api.Around, From: 3, To: 3}, splice(great, great, ""), splice(least, great, "a"), splice(great, least, "a"),
	}
}

// P27.1: what is welded, and what isn't.
func TestTwo(t *testing.T) {
	none := api.Step{}
	for i, x := range []struct{ a, b, want api.Step }{
		// The example; behind the first one's tokens, whatever both take away.
		{splice(5, 5, "a"), splice(6, 6, "b"), splice(5, 5, "ab")}, {splice(5, 7, "ab"), splice(7, 8, "c"), splice(5, 8, "abc")}, {splice(3, 3, "a"), splice(4, 6, ""), splice(3, 5, "a")}, {splice(3, 9, "a"), splice(4, 6, "xyz"), splice(3, 11, "axyz")}, {splice(3, 9, ""), splice(3, 4, "xyz"), splice(3, 10, "xyz")}, {splice(3, 3, "abc"), splice(6, 6, ""), splice(3, 3, "abc")}, {splice(0, 0, ""), splice(0, 0, "a"), splice(0, 0, "a")}, {splice(3, 8, ""), splice(3, 3, ""), splice(3, 8, "")},
		// Up to where the first one begins.
		{splice(5, 5, "a"), splice(5, 5, "b"), splice(5, 5, "ba")}, {splice(5, 7, "xy"), splice(3, 5, "abc"), splice(3, 7, "abcxy")}, {splice(5, 6, ""), splice(4, 5, ""), splice(4, 6, "")}, {splice(2, 3, ""), splice(1, 2, ""), splice(1, 3, "")}, {splice(5, 5, "xy"), splice(0, 5, ""), splice(0, 5, "xy")}, {splice(5, 9, "x"), splice(4, 5, ""), splice(4, 9, "x")},
		// Both are so.
		{splice(5, 5, ""), splice(5, 5, "b"), splice(5, 5, "b")}, {splice(5, 9, ""), splice(5, 5, "b"), splice(5, 9, "b")}, {splice(5, 5, ""), splice(5, 5, ""), splice(5, 5, "")}, {splice(7, most, ""), splice(7, 7, "b"), splice(7, most, "b")},
		// One of them by one, or by none but the other way.
		{splice(3, 3, "a"), splice(5, 5, "b"), none}, {splice(3, 3, "abc"), splice(5, 5, "b"), none}, {splice(3, 3, "abc"), splice(4, 4, "b"), none}, {splice(3, 3, "abc"), splice(4, 6, ""), none}, {splice(3, 3, "ab"), splice(3, 5, ""), none}, {splice(3, 3, "ab"), splice(2, 4, ""), none}, {splice(3, 3, "ab"), splice(0, 2, "x"), none}, {splice(3, 5, ""), splice(1, 2, ""), none}, {splice(3, 5, ""), splice(1, 5, ""), none}, {splice(3, 5, ""), splice(5, 5, "a"), none}, {splice(3, 5, ""), splice(4, 4, ""), none}, {splice(3, 5, ""), splice(2, 4, ""), none}, {splice(6, 6, "b"), splice(5, 5, "a"), none},
		// Marks that meet, or are over one another.
		{added(1, 4, 0, 0), added(4, 6, 0, 0), added(1, 6, 0, 0)}, {added(4, 6, 0, 0), added(1, 4, 0, 0), added(1, 6, 0, 0)}, {added(1, 5, 1, 7), added(3, 9, 1, 7), added(1, 9, 1, 7)}, {added(3, 9, 1, 7), added(1, 5, 1, 7), added(1, 9, 1, 7)}, {added(1, 9, 0, 0), added(3, 4, 0, 0), added(1, 9, 0, 0)}, {added(3, 4, 0, 0), added(1, 9, 0, 0), added(1, 9, 0, 0)}, {added(3, 3, 0, 0), added(3, 3, 0, 0), added(3, 3, 0, 0)}, {added(3, 3, 0, 0), added(3, 5, 0, 0), added(3, 5, 0, 0)}, {added(3, 5, 0, 0), added(5, 5, 0, 0), added(3, 5, 0, 0)}, {added(0, most, 0, 0), added(most, most, 0, 0), added(0, most, 0, 0)}, {removed(1, 4, 0, 0), removed(4, 6, 0, 0), removed(1, 6, 0, 0)}, {removed(4, 6, 2, 3), removed(1, 5, 2, 3), removed(1, 6, 2, 3)}, {added(1, 2, -5, great), added(2, 3, -5, great), added(1, 3, -5, great)}, {removed(1, 2, great, least), removed(1, 3, great, least), removed(1, 3, great, least)},
		// Marks apart, and those that aren't the same.
		{added(1, 4, 0, 0), added(5, 6, 0, 0), none}, {added(5, 6, 0, 0), added(1, 4, 0, 0), none}, {removed(1, 4, 0, 0), removed(5, 6, 0, 0), none}, {removed(5, 5, 0, 0), removed(6, 6, 0, 0), none}, {added(1, 4, 0, 0), removed(4, 6, 0, 0), none}, {removed(1, 4, 0, 0), added(1, 4, 0, 0), none}, {added(1, 4, 0, 0), added(1, 4, 1, 0), none}, {added(1, 4, 1, 0), added(1, 4, 1, 1), none}, {removed(1, 4, 1, 0), removed(1, 4, 1, 1), none}, {removed(1, 4, 1, 0), removed(1, 4, 2, 0), none}, {splice(3, 3, ""), added(3, 3, 0, 0), none}, {removed(3, 3, 0, 0), splice(3, 3, ""), none},
		// As many tokens, and as far, as may be.
		{blank(0, 0, 10000), blank(10000, 10000, 10000), blank(0, 0, 20000)}, {blank(0, 0, 10000), blank(10000, 10000, 10001), none}, {blank(0, 0, 20000), blank(20000, 20000, 1), none}, {blank(0, 0, 20000), blank(20000, 20005, 0), blank(0, 5, 20000)}, {blank(0, 0, 1), blank(1, 1, 20000), none}, {blank(0, 0, 0), blank(0, 0, 20000), blank(0, 0, 20000)}, {blank(5, 5, 10001), blank(5, 5, 10000), none}, {blank(5, 5, 10000), blank(3, 5, 10000), blank(3, 5, 20000)}, {blank(5, 6, 1), blank(4, 5, 20000), none},
		{splice(0, most, "a"), splice(1, 1, "b"), splice(0, most, "ab")}, {splice(0, most-1, "a"), splice(1, 2, "b"), splice(0, most, "ab")}, {splice(0, most, "a"), splice(1, 2, "b"), none}, {splice(0, most-1, "a"), splice(1, 3, "b"), none}, {splice(0, most, ""), splice(0, most, ""), none}, {splice(most, most, ""), splice(most, most, "ab"), splice(most, most, "ab")}, {splice(most, most, "a"), splice(0, most, "ab"), splice(0, most, "aba")}, {splice(most-1, most, "a"), splice(most, most, "b"), splice(most-1, most, "ab")}, {splice(most-1, most, "a"), splice(0, most-1, ""), splice(0, most, "a")}, {splice(most-1, most, "a"), splice(most-1, most, "a"), none},
	} {
		y, ok := Two(x.a, x.b)
		if ok != (x.want.Kind > 0) || !step.Same(y, x.want) {
			t.Errorf("%d: %.200v and %.200v: %.200v, %v", i, x.a, x.b, y, ok)
		}
	}
}

// P27.1: arounds and remarks weld with nothing, nor does what isn't right.
func TestNoTwo(t *testing.T) {
	all := slices.Concat(others(), wrongs(), []api.Step{splice(3, 3, ""), splice(3, 3, "ab"), splice(0, 3, ""), splice(5, 5, ""), blank(0, 0, 0), added(3, 3, 0, 0), added(0, 9, 0, 0), removed(0, 9, 0, 0)})
	for _, a := range slices.Concat(others(), wrongs()) {
		for _, b := range all {
			for _, x := range [][2]api.Step{{a, b}, {b, a}} {
				if y, ok := Two(x[0], x[1]); ok || !step.Same(y, api.Step{}) {
					t.Errorf("%.200v and %.200v: %.200v, %v", x[0], x[1], y, ok)
				}
			}
		}
	}
}

// P27.2: each step is welded to what stands last then, or stands behind it.
func TestAll(t *testing.T) {
	wrong := splice(4, 3, "")
	for i, x := range []struct{ l, want []api.Step }{
		{nil, nil}, {[]api.Step{{}}, []api.Step{{}}}, {[]api.Step{splice(3, 3, "a")}, []api.Step{splice(3, 3, "a")}},
		{[]api.Step{splice(3, 3, "a"), splice(4, 4, "b"), splice(5, 5, "c")}, []api.Step{splice(3, 3, "abc")}},
		{[]api.Step{splice(3, 3, "a"), splice(3, 3, "b"), splice(3, 3, "c")}, []api.Step{splice(3, 3, "cba")}},
		{[]api.Step{splice(6, 7, ""), splice(5, 6, ""), splice(4, 5, ""), splice(4, 4, "x"), splice(5, 6, "y")}, []api.Step{splice(4, 8, "xy")}},
		{[]api.Step{splice(3, 3, "a"), splice(4, 4, "b"), splice(9, 9, "c"), splice(10, 10, "d")}, []api.Step{splice(3, 3, "ab"), splice(9, 9, "cd")}},
		// Once something else stands last, what is ahead of it is welded to no more.
		{[]api.Step{splice(3, 3, "a"), added(0, 2, 0, 0), splice(4, 4, "b"), added(2, 4, 0, 0)}, []api.Step{splice(3, 3, "a"), added(0, 2, 0, 0), splice(4, 4, "b"), added(2, 4, 0, 0)}},
		// What becomes of two is what the third one stands to.
		{[]api.Step{added(1, 3, 0, 0), added(3, 5, 0, 0), added(0, 1, 0, 0), added(7, 9, 0, 0)}, []api.Step{added(0, 5, 0, 0), added(7, 9, 0, 0)}},
		{[]api.Step{splice(3, 3, "a"), splice(5, 5, "b"), splice(4, 5, "c")}, []api.Step{splice(3, 3, "a"), splice(4, 5, "cb")}},
		// Each one is welded to the last one alone, even if those that stand weld then.
		{[]api.Step{splice(3, 3, "a"), splice(6, 6, "b"), splice(4, 6, "")}, []api.Step{splice(3, 3, "a"), splice(4, 6, "b")}},
		{[]api.Step{wrong, wrong, splice(3, 3, "a"), splice(4, 4, "b"), wrong, splice(5, 5, "c")}, []api.Step{wrong, wrong, splice(3, 3, "ab"), wrong, splice(5, 5, "c")}},
		{slices.Concat(others(), others()), slices.Concat(others(), others())},
		{[]api.Step{blank(0, 0, 20000), blank(20000, 20000, 1), blank(20001, 20001, 1)}, []api.Step{blank(0, 0, 20000), blank(20000, 20000, 2)}},
		{[]api.Step{splice(0, most, "a"), splice(1, 2, "b"), splice(2, 3, "c")}, []api.Step{splice(0, most, "a"), splice(1, 3, "bc")}},
	} {
		if got := All(x.l...); !slices.EqualFunc(got, x.want, step.Same) {
			t.Errorf("%d: %.300v, not %.300v", i, got, x.want)
		}
	}
}

// P27.2: very many letters, one behind the other, or one ahead of the other, are as few steps as can be.
func TestLong(t *testing.T) {
	for _, way := range []int{0, 1} {
		var l []api.Step
		for i := range 50000 {
			at := i * way
			l = append(l, api.Step{Kind: api.Splice, From: at, To: at, Slice: token.Text(rune(i))})
		}
		got := All(l...)
		if len(got) != 3 {
			t.Fatal(len(got))
		}
		next := 0
		for i, x := range got {
			if n := min(20000, 50000-20000*i); len(x.Slice) != n || x.From != next*way || x.To != x.From {
				t.Fatal(i, len(x.Slice), x.From, x.To)
			}
			if way == 0 {
				slices.Reverse(x.Slice)
			}
			for _, one := range x.Slice {
				if one.Rune != rune(next) {
					t.Fatal(i, one, next)
				}
				next++
			}
		}
	}
}

// P3, P6: what is handed in stays, spare room too, and isn't kept; what is answered is new.
func TestStays(t *testing.T) {
	roomy := func(x api.Step) (api.Step, []api.Token) {
		room := append(slices.Grow(x.Slice, 5), slices.Repeat([]api.Token{{Kind: 7}}, 3)...)
		x.Slice = room[:len(x.Slice)]
		return x, room
	}
	var l []api.Step
	var rooms, were [][]api.Token
	for _, x := range []api.Step{splice(5, 7, "ab"), splice(7, 7, "cd"), splice(3, 5, "ef"), splice(0, 0, "gh"), added(3, 5, 0, 0), added(5, 6, 0, 0), {Kind: api.Remark, From: 3, To: 4, Sets: []api.Marks{{1}}}} {
		y, room := roomy(x)
		l, rooms, were = append(l, y), append(rooms, room), append(were, slices.Clone(room))
	}
	steps := append(slices.Clone(l), api.Step{Kind: 77})
	for range 3 {
		got := All(steps[:len(l)]...)
		if want := []api.Step{splice(3, 7, "efabcd"), splice(0, 0, "gh"), added(3, 6, 0, 0), {Kind: api.Remark, From: 3, To: 4, Sets: []api.Marks{{1}}}}; !slices.EqualFunc(got, want, step.Same) {
			t.Fatal(got)
		}
		for i := range len(l) - 1 {
			if y, ok := Two(l[i], l[i+1]); ok {
				got = append(got, y)
			}
		}
		for i, x := range got {
			// Nothing lies behind one's end that is another one's.
			_, _ = append(x.Slice, api.Token{Kind: 9}), append(x.Sets, api.Marks{9})
			for k, other := range got {
				if k != i && slices.ContainsFunc(other.Slice, func(one api.Token) bool { return one.Kind == 9 }) {
					t.Fatal(i, k)
				}
			}
			clear(x.Slice)
			clear(x.Sets)
		}
		for i, room := range rooms {
			if !slices.Equal(room, were[i]) || steps[len(l)].Kind != 77 || l[6].Sets[0] != (api.Marks{1}) {
				t.Fatal(i, room)
			}
		}
	}
}
