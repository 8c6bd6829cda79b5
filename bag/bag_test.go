package bag

import (
	"math/rand"
	"slices"
	"testing"
)

// edges are numbers at both sides of each bound: of what a bag may have, and of its words.
var edges = []int{
	-1 << 63, -1<<63 + 1, -1 << 32, -257, -256, -255, -65, -64, -63, -1, 0, 1, 2, 31, 32, 62, 63, 64, 65, 126, 127, 128, 129,
	190, 191, 192, 193, 253, 254, 255, 256, 257, 319, 320, 511, 512, 1 << 32, 1<<32 + 5, 1 << 62, 1<<63 - 1,
}

// listOf is what a bag of these numbers has, worked out by a list.
func listOf(l []int) []int {
	var k []int
	for n := range 256 {
		if slices.Contains(l, n) {
			k = append(k, n)
		}
	}
	return k
}

// check holds a bag against the list of its numbers, by every call that looks into it.
func check(t *testing.T, b Bag, want []int) {
	t.Helper()
	if got := b.List(); !slices.Equal(got, want) {
		t.Fatalf("List = %v, want %v", got, want)
	}
	if got := slices.Collect(b.All()); !slices.Equal(got, want) {
		t.Fatalf("All tells %v, want %v", got, want)
	}
	if b.Len() != len(want) {
		t.Fatalf("Len of %v = %d", want, b.Len())
	}
	n, ok := b.First()
	if ok != (len(want) > 0) || ok && n != want[0] || !ok && n != 0 {
		t.Fatalf("First of %v = %d, %v", want, n, ok)
	}
	for n := -3; n < 300; n++ {
		if b.Has(n) != slices.Contains(want, n) {
			t.Fatalf("Has(%d) of %v = %v", n, want, b.Has(n))
		}
	}
	for _, n := range edges {
		if b.Has(n) != slices.Contains(want, n) {
			t.Fatalf("Has(%d) of %v = %v", n, want, b.Has(n))
		}
	}
}

// P3: example 1.
func TestExample(t *testing.T) {
	check(t, Of(3, 300, -1, 3), []int{3})
}

// P3.1: a zero value, and a bag of nothing.
func TestNothing(t *testing.T) {
	check(t, Bag{}, nil)
	check(t, Of(), nil)
	check(t, Of(nil...), nil)
	check(t, Of(-1, 256, 1<<63-1, -1<<63), nil)
	if Of() != (Bag{}) || Of(-1, 256) != (Bag{}) {
		t.Error("bags of nothing aren't the same")
	}
}

// P3.1: Of, Has, With
func TestOne(t *testing.T) {
	full := make([]int, 256)
	for n := range full {
		full[n] = n
		check(t, Of(n), []int{n})
		check(t, Bag{}.With(n), []int{n})
		check(t, Of(full[:n]...), full[:n])
	}
	all := Of(full...)
	check(t, all, full)
	for _, n := range edges {
		check(t, Of(n), listOf([]int{n}))
		check(t, Of(7, 200).With(n), listOf([]int{7, 200, n}))
		if all.With(n) != all {
			t.Errorf("all with %d", n)
		}
	}
}

// P3.1: With makes another bag.
func TestWithLeavesIt(t *testing.T) {
	b := Of(1, 100)
	c := b.With(2).With(255)
	check(t, b, []int{1, 100})
	check(t, c, []int{1, 2, 100, 255})
}

// P3.1: Of reads its list and leaves it.
func TestOfLeavesItsList(t *testing.T) {
	l := []int{9, -4, 9, 256, 0, 77}
	check(t, Of(l[:5]...), []int{0, 9})
	if !slices.Equal(l, []int{9, -4, 9, 256, 0, 77}) {
		t.Error(l)
	}
}

// P3.1: == tells whether two have the same numbers, in whatever way they were made.
func TestSame(t *testing.T) {
	if Of(3, 64, 128) != Of(128, 3, 64, 3, 700) || Of(64).With(3).With(128) != Of(3, 64, 128) {
		t.Error("the same numbers")
	}
	if Of(3).Or(Of(64)).Not(Of(3)) != Of(64) || Of(255).And(Of(254)) != (Bag{}) {
		t.Error("after Or, Not and And")
	}
	for n := range 256 {
		if Of(n) == Of((n+1)%256) || Of(n) == Of((n+64)%256) || Of(n) == (Bag{}) {
			t.Error("others are the same as", n)
		}
	}
	seen := map[Bag]bool{Of(1, 2): true}
	if !seen[Of(2, 1)] || seen[Of(2)] {
		t.Error("as a key")
	}
}

// P3.1: Or, And, Not
func TestTwo(t *testing.T) {
	a, b := Of(0, 5, 63, 64, 127, 200, 255), Of(5, 64, 128, 200, 254)
	check(t, a.Or(b), []int{0, 5, 63, 64, 127, 128, 200, 254, 255})
	check(t, a.And(b), []int{5, 64, 200})
	check(t, a.Not(b), []int{0, 63, 127, 255})
	check(t, b.Not(a), []int{128, 254})
	check(t, a.Or(Bag{}), a.List())
	check(t, a.And(Bag{}), nil)
	check(t, a.Not(Bag{}), a.List())
	check(t, Bag{}.Not(a), nil)
	check(t, a.Not(a), nil)
	check(t, a, []int{0, 5, 63, 64, 127, 200, 255})
	check(t, b, []int{5, 64, 128, 200, 254})
}

// P3.1, P3.2, P3.3: bags made by chance, held against lists.
func TestAgainstLists(t *testing.T) {
	r := rand.New(rand.NewSource(1))
	some := func() []int {
		l := make([]int, r.Intn(40))
		for i := range l {
			l[i] = r.Intn(300) - 20
		}
		return l
	}
	for range 400 {
		l, k := some(), some()
		a, b := Of(l...), Of(k...)
		in, out := []int{}, []int{}
		for _, n := range listOf(l) {
			if slices.Contains(k, n) {
				in = append(in, n)
			} else {
				out = append(out, n)
			}
		}
		check(t, a, listOf(l))
		check(t, a.Or(b), listOf(slices.Concat(l, k)))
		check(t, a.And(b), in)
		check(t, a.Not(b), out)
		if Of(a.List()...) != a {
			t.Fatal("a bag isn't its list", l)
		}
		if a.And(b).And(a.Not(b)) != (Bag{}) || a.And(b).Or(a.Not(b)) != a {
			t.Fatal("And and Not", l, k)
		}
	}
}

// P3.2: All is told as far as one likes, each time from its beginning.
func TestAllStops(t *testing.T) {
	b := Of(3, 70, 71, 200, 255)
	all := b.All()
	for far := range 6 {
		var got []int
		for n := range all {
			if len(got) == far {
				break
			}
			got = append(got, n)
		}
		if !slices.Equal(got, b.List()[:min(far, 5)]) {
			t.Errorf("as far as %d: %v", far, got)
		}
	}
	told := 0
	all(func(int) bool { told++; return false })
	if told != 1 {
		t.Error("told after a stop:", told)
	}
	for n := range all {
		for m := range all {
			if m > n && !b.Has(m) {
				t.Error(m)
			}
		}
	}
	check(t, b, []int{3, 70, 71, 200, 255})
}

// P3.2: a list is new memory.
func TestListIsNew(t *testing.T) {
	b := Of(1, 2, 3)
	l := b.List()
	l[0] = 99
	check(t, b, []int{1, 2, 3})
}
