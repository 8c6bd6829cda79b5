package route

import (
	"math/rand/v2"
	"testing"

	"stet/api"
	"stet/smap"
)

// ranges is a map by chance.
func ranges(chance *rand.Rand, most int) []api.Range {
	var m []api.Range
	at := chance.IntN(4)
	for range chance.IntN(most + 1) {
		m = append(m, api.Range{At: at, Old: chance.IntN(4), New: chance.IntN(4)})
		at += m[len(m)-1].Old + 1 + chance.IntN(3)
	}
	return m
}

// links are links by chance, some of which mirror any other one.
func links(chance *rand.Rand, most int) []link {
	var l []link
	free := []int{}
	for i := range chance.IntN(most + 1) {
		one := link{ranges(chance, 3), none}
		if len(free) > 0 && chance.IntN(2) == 0 {
			k := chance.IntN(len(free))
			one.of = free[k]
			free = append(free[:k], free[k+1:]...)
			switch chance.IntN(4) {
			case 0:
			case 1:
				// As of a change that was shortened since.
				one.m = smap.Invert(l[one.of].m)
				for j := range one.m {
					one.m[j].New = max(one.m[j].New-1, 0)
				}
			default:
				one.m = smap.Invert(l[one.of].m)
			}
		} else {
			free = append(free, i)
		}
		l = append(l, one)
	}
	return l
}

// goes is a place behind the first so many links, gone on through the others, as the words of the chapter say it.
func goes(links []link, done int, place smap.Place, side int) (smap.Place, api.Errno) {
	if done == len(links) {
		return place, api.OK
	}
	p, e := smap.Tell(links[done].m, place.Position, side)
	if e != api.OK {
		return smap.Place{}, e
	}
	for i := done + 1; p.Gone && i < len(links); i++ {
		if links[i].of != done {
			continue
		}
		if at, ok := smap.Recover(links[i].m, p.Range, p.Offset); ok {
			return goes(links, i+1, smap.Place{Position: at, Gone: place.Gone, Inside: place.Inside}, side)
		}
	}
	return goes(links, done+1, smap.Place{Position: p.Position, Gone: place.Gone || p.Gone, Inside: place.Inside || p.Inside}, side)
}

// rest is the links from a number on.
func rest(l []link, from int) []link {
	var left []link
	for _, one := range l[from:] {
		if one.of = one.of - from; one.of < 0 {
			one.of = none
		}
		left = append(left, one)
	}
	return left
}

// turned is the links the other way.
func turned(l []link) []link {
	var back []link
	for i := range l {
		k := len(l) - 1 - i
		one := link{smap.Invert(l[k].m), none}
		for j := k + 1; j < len(l); j++ {
			if l[j].of == k {
				one.of = len(l) - 1 - j
			}
		}
		back = append(back, one)
	}
	return back
}

// held holds a route against its links, and tells how often a position is gone, and how often one isn't.
func held(t *testing.T, r *Route, l []link) (gone, left int) {
	t.Helper()
	if !same(r, made(t, l...)) {
		t.Fatal(l)
	}
	for at := -1; at < 25; at++ {
		for _, side := range []int{-1, 0, 1} {
			want, f := goes(l, 0, smap.Place{Position: at}, side)
			p, e := r.Tell(at, side)
			if p != want || e != f || r.Position(at, side) != want.Position {
				t.Fatalf("%v at %d of side %d: %v, %v, not %v", l, at, side, p, e, want)
			}
			if p.Gone {
				gone++
			} else {
				left++
			}
		}
	}
	return gone, left
}

// P24.1 to P24.3: positions through maps by chance, with mirrors, from any of them on, and the other way.
func TestByChance(t *testing.T) {
	chance := rand.New(rand.NewPCG(24, 1))
	gone, left := 0, 0
	for range 2000 {
		l := links(chance, 7)
		r := made(t, l...)
		a, b := held(t, r, l)
		gone, left = gone+a, left+b
		for from := range len(l) + 1 {
			held(t, r.From(from), rest(l, from))
			held(t, r.From(from).Invert(), turned(rest(l, from)))
		}
		held(t, r, l)
		if back := r.Invert().Invert(); !same(r, back) {
			t.Fatal(l)
		}
	}
	if gone < 20000 || left < 20000 {
		t.Error(gone, left)
	}
}

// pairs puts pairs of maps and their inverses that mirror them into a route, in which other such pairs stand.
func pairs(t *testing.T, chance *rand.Rand, r *Route, deep int) {
	t.Helper()
	for range 1 + chance.IntN(2) {
		of, m := r.Len(), ranges(chance, 3)
		if e := r.Add(m); e != api.OK {
			t.Fatal(m, e)
		}
		if deep > 0 {
			pairs(t, chance, r, deep-1)
		}
		if e := r.Mirror(smap.Invert(m), of); e != api.OK {
			t.Fatal(m, e)
		}
	}
}

// P24.4: through maps and their inverses that mirror them each position comes to itself; the other way too, and behind other maps as far as they bring it.
func TestThereAndBack(t *testing.T) {
	chance := rand.New(rand.NewPCG(24, 2))
	gone := 0
	for range 2000 {
		r := &Route{}
		pairs(t, chance, r, chance.IntN(4))
		other := made(t, link{ranges(chance, 3), none})
		back := r.Invert()
		pairs(t, chance, other, chance.IntN(3))
		for at := range 30 {
			for _, side := range []int{-1, 0, 1} {
				for _, one := range []*Route{r, back} {
					if p, e := one.Tell(at, side); p != (smap.Place{Position: at}) || e != api.OK {
						t.Fatalf("%v: %d of side %d is %v, %v", one, at, side, p, e)
					}
				}
				first, e := smap.Tell(other.At(0), at, side)
				if p, f := other.Tell(at, side); p != (smap.Place{Position: first.Position, Gone: first.Gone, Inside: first.Inside}) || e != f {
					t.Fatalf("%v: %d of side %d is %v, %v", other, at, side, p, f)
				}
				if p, _ := smap.Tell(r.At(0), at, side); p.Gone {
					gone++
				}
			}
		}
	}
	if gone < 10000 {
		t.Error(gone)
	}
}

// P24.4: of one map with its inverse behind it, unless that mirrors it, what is gone doesn't come back.
func TestWithoutMirror(t *testing.T) {
	chance := rand.New(rand.NewPCG(24, 3))
	for range 2000 {
		m := ranges(chance, 3)
		r := made(t, link{m, none}, link{smap.Invert(m), none})
		for at := range 20 {
			for _, side := range []int{-1, 1} {
				was, _ := smap.Tell(m, at, side)
				p, e := r.Tell(at, side)
				if e != api.OK || p.Gone != was.Gone || p.Inside != was.Inside || !p.Gone && p.Position != at {
					t.Fatalf("%v: %d of side %d is %v, %v", m, at, side, p, e)
				}
			}
		}
	}
}

// P6: what is told doesn't hang on what was told ahead of it.
func TestAgain(t *testing.T) {
	chance := rand.New(rand.NewPCG(24, 4))
	for range 200 {
		l := links(chance, 7)
		r, was := made(t, l...), made(t, l...)
		for range 3 {
			held(t, r, l)
			r.From(1).Add(nil)
			r.Invert().Mirror(nil, 0)
			r.Tell(-1, 0)
			if !same(r, was) {
				t.Fatal(l)
			}
		}
	}
}
