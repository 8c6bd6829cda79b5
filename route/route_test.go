package route

import (
	"slices"
	"testing"

	"stet/api"
	"stet/smap"
)

const (
	most  = 1 << 30
	least = -1 << 63
	great = 1<<63 - 1
)

// list is a map of numbers, three for each range.
func list(numbers ...int) []api.Range {
	var m []api.Range
	for i := 0; i < len(numbers); i += 3 {
		m = append(m, api.Range{At: numbers[i], Old: numbers[i+1], New: numbers[i+2]})
	}
	return m
}

// link is a map of a route, and the number of the one that it mirrors; none is that of a map that mirrors none.
type link struct {
	m  []api.Range
	of int
}

const none = -1

// made is a route of links.
func made(t testing.TB, links ...link) *Route {
	t.Helper()
	r := &Route{}
	for i, l := range links {
		e := api.OK
		if l.of == none {
			e = r.Add(l.m)
		} else {
			e = r.Mirror(l.m, l.of)
		}
		if e != api.OK {
			t.Fatal(i, l, e)
		}
	}
	return r
}

// same tells whether two routes have the same maps and the same mirrors.
func same(a, b *Route) bool {
	if (a == nil) != (b == nil) || a.Len() != b.Len() {
		return false
	}
	for i := -1; i <= a.Len(); i++ {
		k, ok := a.Of(i)
		other, has := b.Of(i)
		if !slices.Equal(a.At(i), b.At(i)) || k != other || ok != has {
			return false
		}
	}
	return true
}

// odd are numbers that no map of a short route has.
func odd() []int {
	return []int{least, least + 1, -1 << 32, -1, 3, 4, 1 << 31, 1 << 32, 1<<32 + 1, great}
}

// P24.1, P24.2: a zero route has no maps, and lets each position be its own; nil has errors.
func TestEmpty(t *testing.T) {
	var zero Route
	for i, r := range []*Route{nil, &zero, {}, zero.From(0), zero.From(-1), zero.From(great), zero.Invert()} {
		if r.Len() != 0 || (r == nil) != (i == 0) {
			t.Error(i, r.Len())
		}
		for _, n := range append(odd(), 0, 1) {
			if k, ok := r.Of(n); k != 0 || ok || len(r.At(n)) != 0 {
				t.Error(i, n, k, ok)
			}
			for _, side := range []int{least, -1, 0, 1, great} {
				want, e := smap.Place{Position: n}, api.OK
				if i == 0 {
					want, e = smap.Place{}, api.ErrNil
				}
				if p, f := r.Tell(n, side); p != want || f != e || r.Position(n, side) != want.Position {
					t.Error(i, n, p, f)
				}
			}
			if f := r.From(n); f.Len() != 0 || (f == nil) != (i == 0) {
				t.Error(i, n, f)
			}
		}
		if w := r.Invert(); w.Len() != 0 || (w == nil) != (i == 0) {
			t.Error(i, w)
		}
	}
	var r *Route
	if e := r.Add(list(0, 0, 1)); e != api.ErrNil {
		t.Error(e)
	}
	if e := r.Add(list(-1, 0, 1)); e != api.ErrNil {
		t.Error(e)
	}
	if e := r.Mirror(list(-1, 0, 1), 0); e != api.ErrNil {
		t.Error(e)
	}
}

// P24.1: maps and their mirrors by numbers.
func TestMirrors(t *testing.T) {
	r := made(t, link{list(5, 2, 0), none}, link{list(0, 0, 1), none}, link{list(6, 0, 2), 0}, link{nil, none}, link{list(0, 1, 0), 1})
	for i, x := range []struct {
		m  []api.Range
		of int
		ok bool
	}{{list(5, 2, 0), 2, true}, {list(0, 0, 1), 4, true}, {list(6, 0, 2), 0, true}, {nil, 0, false}, {list(0, 1, 0), 1, true}, {nil, 0, false}} {
		if k, ok := r.Of(i); !slices.Equal(r.At(i), x.m) || k != x.of || ok != x.ok {
			t.Error(i, r.At(i), k, ok)
		}
	}
	if r.Len() != 5 {
		t.Error(r.Len())
	}
	// Which map it is that is mirrored isn't asked, but that it is there, and has no mirror.
	for _, of := range []int{0, 1, 2, 4} {
		if e := r.Mirror(list(1, 1, 1), of); e != api.ErrNone {
			t.Error(of, e)
		}
	}
	if e := r.Mirror(list(3, 3, 3), 3); e != api.OK {
		t.Error(e)
	}
	if k, ok := r.Of(3); k != 5 || !ok || r.Len() != 6 {
		t.Error(k, ok)
	}
	if k, ok := r.Of(5); k != 3 || !ok || !slices.Equal(r.At(5), list(3, 3, 3)) {
		t.Error(k, ok)
	}
}

// P24.1, P2: errors, the first one ahead; with one nothing has changed.
func TestErrors(t *testing.T) {
	links := []link{{list(5, 2, 0), none}, {list(0, 0, 1), none}, {list(6, 0, 2), 0}}
	r, was := made(t, links...), made(t, links...)
	many := make([]api.Range, 1001)
	for i := range many {
		many[i].At = i
	}
	for _, m := range [][]api.Range{list(-1, 0, 0), list(0, -1, 0), list(0, 0, -1), list(most+1, 0, 0), list(0, most+1, 0), list(0, 0, most+1), list(2, 1, 0, 3, 0, 0), list(3, 0, 0, 3, 0, 0), list(least, least, least), list(great, great, great), many} {
		if e := r.Add(m); e != api.ErrArg || !same(r, was) {
			t.Error(m, e)
		}
		for _, of := range append(odd(), 0, 1, 2) {
			if e := r.Mirror(m, of); e != api.ErrArg || !same(r, was) {
				t.Error(m, of, e)
			}
		}
	}
	for _, of := range append(odd(), 0, 2) {
		if e := r.Mirror(list(1, 1, 1), of); e != api.ErrNone || !same(r, was) {
			t.Error(of, e)
		}
	}
	if e := r.Add(many[:1000]); e != api.OK || r.Len() != 4 || !slices.Equal(r.At(3), many[:1000]) {
		t.Error(e, r.Len())
	}
}

// P24.1: 5000 maps may be, one more may not.
func TestLong(t *testing.T) {
	var r Route
	for i := range 5000 {
		e := api.OK
		if i%3 == 2 {
			e = r.Mirror(list(0, 1, 0), i-2)
		} else {
			e = r.Add(list(0, 0, 1))
		}
		if e != api.OK || r.Len() != i+1 {
			t.Fatal(i, e)
		}
	}
	for range 2 {
		for _, x := range []struct {
			m    []api.Range
			want api.Errno
		}{{nil, api.ErrLong}, {list(0, 0, 1), api.ErrLong}, {list(0, 0, -1), api.ErrArg}} {
			if e := r.Add(x.m); e != x.want {
				t.Error(x.m, e)
			}
			for _, of := range []int{-1, 0, 1, 4999, 5000} {
				if e := r.Mirror(x.m, of); e != x.want {
					t.Error(x.m, of, e)
				}
			}
		}
	}
	if _, ok := r.Of(1); r.Len() != 5000 || ok {
		t.Error(r.Len(), ok)
	}
	// 1667 pairs; what stands alone is 1 of 3, and the last two.
	if n := r.Position(7, 1); n != 7+1668 {
		t.Error(n)
	}
	if w := r.Invert(); w.Len() != 5000 || w.Position(7+1668, 1) != 7 || w.Add(nil) != api.ErrLong {
		t.Error(w.Len(), w.Position(7+1668, 1))
	}
	f := r.From(1)
	if f.Len() != 4999 || f.Add(nil) != api.OK || f.Add(nil) != api.ErrLong || f.Mirror(nil, 0) != api.ErrLong || r.Len() != 5000 {
		t.Error(f.Len())
	}
}

// P24.2: the example, and positions through mirrors and beside them.
func TestTell(t *testing.T) {
	del, back := list(5, 2, 0), list(5, 0, 2)
	at := func(position int) smap.Place { return smap.Place{Position: position} }
	gone := func(position int) smap.Place { return smap.Place{Position: position, Gone: true} }
	inside := func(position int) smap.Place { return smap.Place{Position: position, Gone: true, Inside: true} }
	for _, x := range []struct {
		links       []link
		at          int
		left, right smap.Place
	}{
		{[]link{{del, none}, {back, 0}}, 6, at(6), at(6)}, {[]link{{del, none}, {back, 0}}, 5, at(5), at(5)}, {[]link{{del, none}, {back, 0}}, 7, at(7), at(7)}, {[]link{{del, none}, {back, 0}}, 8, at(8), at(8)},
		{[]link{{del, none}}, 6, inside(5), inside(5)}, {[]link{{del, none}, {back, none}}, 6, inside(5), inside(7)}, {[]link{{del, none}, {back, none}}, 5, at(5), gone(7)}, {[]link{{del, none}, {back, none}}, 7, gone(5), at(7)},
		// The maps between are gone through by what isn't gone alone.
		{[]link{{del, none}, {list(0, 0, 9), none}, {list(14, 0, 2), 0}}, 6, at(15), at(15)}, {[]link{{del, none}, {list(0, 0, 9), none}, {list(14, 0, 2), 0}}, 8, at(17), at(17)},
		{[]link{{del, none}, {list(5, 1, 0), none}, {back, 0}}, 6, at(6), at(6)}, {[]link{{del, none}, {list(5, 1, 0), none}, {back, 0}}, 7, at(7), gone(7)},
		{[]link{{del, none}, {list(4, 2, 1), none}, {list(3, 0, 2), 0}}, 6, at(4), at(4)}, {[]link{{del, none}, {list(4, 2, 1), none}, {list(3, 0, 2), 0}}, 5, inside(6), at(3)}, {[]link{{del, none}, {list(4, 2, 1), none}, {list(3, 0, 2), 0}}, 7, at(5), inside(7)},
		// Behind its mirror it goes on through the others.
		{[]link{{del, none}, {back, 0}, {list(6, 0, 4), none}}, 6, at(6), at(10)}, {[]link{{del, none}, {back, 0}, {list(5, 2, 0), none}}, 6, inside(5), inside(5)}, {[]link{{del, none}, {back, 0}, {list(6, 1, 3), none}}, 6, at(6), gone(6)},
		{[]link{{del, none}, {back, 0}, {del, none}, {back, 2}}, 6, at(6), at(6)}, {[]link{{del, none}, {del, none}, {back, 1}, {back, 0}}, 7, at(7), at(7)}, {[]link{{del, none}, {del, none}, {back, 0}, {back, 1}}, 7, at(9), at(5)},
		// It is gone, if nothing is recovered: of a mirror with fewer ranges, or fewer tokens.
		{[]link{{del, none}, {nil, 0}}, 6, inside(5), inside(5)}, {[]link{{del, none}, {list(5, 0, 1), 0}}, 6, at(6), at(6)}, {[]link{{del, none}, {list(5, 0, 1), 0}}, 7, gone(5), at(6)}, {[]link{{list(2, 1, 0, 5, 2, 0), none}, {list(2, 0, 1), 0}}, 6, inside(5), inside(5)}, {[]link{{list(2, 1, 0, 5, 2, 0), none}, {list(2, 0, 1), 0}}, 3, at(3), at(3)},
		{[]link{{list(2, 1, 0, 5, 2, 0), none}, {list(1, 0, 3, 7, 4, 9), 0}}, 6, at(11), at(11)}, {[]link{{list(2, 1, 0, 5, 2, 0), none}, {list(1, 0, 3, 7, 4, 9), 0}}, 2, at(5), at(1)}, {[]link{{list(2, 1, 0, 5, 2, 0), none}, {list(1, 0, 3, 7, 4, 9), 0}}, 3, at(2), at(5)},
		// A mirror that stands ahead brings nothing back.
		{[]link{{back, none}, {del, 0}}, 5, at(5), at(5)}, {[]link{{nil, none}, {del, 0}}, 6, inside(5), inside(5)}, {[]link{{list(0, 0, 3), none}, {list(4, 3, 0), 0}}, 2, inside(4), inside(4)},
		// Once gone, or inside, it stays so.
		{[]link{{list(5, 2, 1), none}, {list(0, 1, 0), none}}, 6, inside(4), inside(5)}, {[]link{{list(5, 1, 1), none}, {list(0, 1, 0), none}, {list(0, 0, 1), 1}}, 6, gone(6), at(6)},
		{[]link{{list(0, 5, 1), none}, {list(0, 1, 0), none}, {list(0, 0, 1), 1}}, 2, inside(0), inside(1)},
		{[]link{{list(5, 1, 0), none}, {list(4, 2, 2), none}}, 6, inside(4), inside(6)},
	} {
		r := made(t, x.links...)
		for _, side := range []int{least, -1, 0, 1, great} {
			want := x.left
			if side >= 0 {
				want = x.right
			}
			if p, e := r.Tell(x.at, side); p != want || e != api.OK || r.Position(x.at, side) != want.Position {
				t.Errorf("%v at %d of side %d: %v, %v, not %v", x.links, x.at, side, p, e, want)
			}
		}
	}
}

// P24.2: a position is asked for as soon as it is to go through a map, not behind the last one, and not where maps aren't gone through.
func TestRange(t *testing.T) {
	const last = 1 << 40
	grow, del := list(0, 0, most), list(5, 2, 0)
	over := link{list(0, 0, 1), none}
	for i, x := range []struct {
		links []link
		at    int
		want  int
		e     api.Errno
	}{
		{[]link{over}, -1, 0, api.ErrRange}, {[]link{over}, last + 1, 0, api.ErrRange}, {[]link{over}, least, 0, api.ErrRange}, {[]link{over}, great, 0, api.ErrRange}, {[]link{{nil, none}}, last + 1, 0, api.ErrRange}, {[]link{{nil, none}}, -1, 0, api.ErrRange}, {[]link{{nil, none}}, last, last, api.OK},
		{[]link{over}, last, last + 1, api.OK}, {[]link{over, over}, last, 0, api.ErrRange}, {[]link{over, over}, last - 1, last + 1, api.OK}, {[]link{over, over, {nil, none}}, last - 1, 0, api.ErrRange}, {[]link{over, {list(0, 1, 0), none}}, last, 0, api.ErrRange}, {[]link{over, {list(0, 1, 0), 0}}, last, 0, api.ErrRange},
		{[]link{{grow, none}}, last, last + most, api.OK}, {[]link{{grow, none}, {grow, none}}, last - most, last + most, api.OK}, {[]link{{grow, none}, {grow, none}}, last - most + 1, 0, api.ErrRange},
		{[]link{{list(9, most, 0), none}, over}, last, last - most + 1, api.OK},
		// Through no map of these a position that is recovered goes.
		{[]link{{del, none}, {grow, none}, {list(5, 0, 2), 0}}, 6, 6, api.OK}, {[]link{{del, none}, {grow, none}, {list(5, 0, 2), 0}}, last + 1, 0, api.ErrRange},
	} {
		r := made(t, x.links...)
		for _, side := range []int{-1, 1} {
			if p, e := r.Tell(x.at, side); p != (smap.Place{Position: x.want}) || e != x.e || r.Position(x.at, side) != x.want {
				t.Error(i, side, p, e)
			}
		}
	}
	// 1100 maps of 2^30 lead beyond 2^40 from 0.
	var far Route
	for i := range 1100 {
		if n := far.Position(0, 1); i <= 1024 && n != i*most || i == 1025 && n != i*most || i > 1025 && n != 0 {
			t.Fatal(i, n)
		}
		far.Add(grow)
	}
	if n, e := far.Tell(0, -1); n != (smap.Place{}) || e != api.OK {
		t.Error(n, e)
	}
	if n, e := far.Tell(0, 0); n != (smap.Place{}) || e != api.ErrRange {
		t.Error(n, e)
	}
}

// P24.3: the maps from a number on, with the mirrors among them, by numbers of their own.
func TestFrom(t *testing.T) {
	links := []link{{list(5, 2, 0), none}, {list(0, 0, 1), none}, {list(9, 1, 1), none}, {list(0, 1, 0), 1}, {list(5, 0, 2), 0}, {list(7, 0, 7), none}}
	r := made(t, links...)
	for i, want := range []*Route{
		r,
		made(t, link{links[1].m, none}, link{links[2].m, none}, link{links[3].m, 0}, link{links[4].m, none}, link{links[5].m, none}),
		made(t, link{links[2].m, none}, link{links[3].m, none}, link{links[4].m, none}, link{links[5].m, none}),
		made(t, link{links[3].m, none}, link{links[4].m, none}, link{links[5].m, none}),
		made(t, link{links[4].m, none}, link{links[5].m, none}),
		made(t, link{links[5].m, none}),
		{}, {},
	} {
		if f := r.From(i); !same(f, want) {
			t.Error(i, f)
		}
	}
	for _, i := range odd() {
		want := r
		if i >= r.Len() {
			want = &Route{}
		} else if i > 0 {
			continue
		}
		if f := r.From(i); !same(f, want) {
			t.Error(i, f)
		}
	}
	if f := r.From(1).From(1).From(-5); !same(f, r.From(2)) {
		t.Error(f)
	}
	// What mirrors a map that isn't among them may be mirrored, and brings nothing back.
	f := r.From(1)
	if f.Position(6, 1) != 15 || r.Position(6, 1) != 6 || f.Mirror(nil, 3) != api.OK {
		t.Error(f.Position(6, 1), r.Position(6, 1))
	}
}

// P24.3: the maps the other way, with the same ones as mirrors; none, if one can't be.
func TestInvert(t *testing.T) {
	r := made(t, link{list(5, 2, 0), none}, link{list(0, 0, 1), none}, link{list(6, 0, 2), 0}, link{list(2, 1, 4, 9, 3, 0), none})
	want := made(t, link{list(2, 4, 1, 12, 0, 3), none}, link{list(6, 2, 0), none}, link{list(0, 1, 0), none}, link{list(5, 0, 2), 1})
	if w := r.Invert(); !same(w, want) || !same(w.Invert(), r) || !same(want.Invert(), r) {
		t.Error(w)
	}
	for i, x := range []struct {
		m    []api.Range
		want bool
	}{
		{list(0, 0, most, 1, 0, 0), false}, {list(0, 0, 1, most, 0, 0), false}, {list(0, 0, 1, most-1, 0, 0), true}, {list(most, 0, 0), true}, {list(0, most-1, 0, most, most, most), true}, {list(0, 0, most, most, 0, 0), false},
	} {
		if w := made(t, link{x.m, none}).Invert(); (w != nil) != x.want {
			t.Error(i, w)
		}
		for k := range 3 {
			links := []link{{nil, none}, {list(4, 0, 2), none}, {list(4, 2, 0), 1}}
			links[k] = link{x.m, none}
			if k == 1 {
				links[2].of = none
			}
			if w := made(t, links...).Invert(); (w != nil) != x.want {
				t.Error(i, k, w)
			}
		}
	}
}

// P3: what is handed in isn't kept, what is answered is new, and routes are by themselves.
func TestOwn(t *testing.T) {
	room := list(5, 2, 0, 9, 9, 9)
	was := slices.Clone(room)
	var r Route
	if r.Add(room[:1]) != api.OK || r.Add(room[:1]) != api.OK || r.Mirror(room[:1], 0) != api.OK || !slices.Equal(room, was) {
		t.Fatal(room)
	}
	clear(room)
	links := []link{{list(5, 2, 0), none}, {list(5, 2, 0), none}, {list(5, 2, 0), 0}}
	want := made(t, links...)
	if !same(&r, want) {
		t.Fatal(r.At(0), r.At(1), r.At(2))
	}
	_ = append(r.At(1), api.Range{At: 8})
	clear(r.At(0))
	clear(r.From(0).At(1))
	clear(r.Invert().At(2))
	if !same(&r, want) {
		t.Fatal(r.At(0), r.At(1), r.At(2))
	}
	// Each may have maps of its own behind those that it has in common with another one, and mirrors.
	one, two, back := r.From(0), r.From(1), r.Invert()
	all := []struct {
		r        *Route
		m        []api.Range
		of, from int
	}{{one, list(1, 1, 1), 1, 3}, {two, list(2, 2, 2), 0, 2}, {&r, list(3, 3, 3), 1, 3}, {back, list(4, 4, 4), 1, 3}}
	for i, x := range all {
		if e := x.r.Mirror(x.m, x.of); e != api.OK {
			t.Error(i, e)
		}
	}
	for i, x := range slices.Backward(all) {
		if e := x.r.Add(x.m); e != api.OK {
			t.Error(i, e)
		}
	}
	for i, x := range all {
		k, ok := x.r.Of(x.of)
		if !slices.Equal(x.r.At(x.from), x.m) || !slices.Equal(x.r.At(x.from+1), x.m) || x.r.Len() != x.from+2 || k != x.from || !ok {
			t.Error(i, x.r.Len(), x.r.At(x.from), x.r.At(x.from+1), k, ok)
		}
	}
	for i := range 3 {
		if !slices.Equal(r.At(i), links[i].m) || !slices.Equal(one.At(i), links[i].m) || !slices.Equal(back.At(i), list(5, 0, 2)) {
			t.Error(i)
		}
	}
}
