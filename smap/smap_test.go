package smap

import (
	"math/rand/v2"
	"slices"
	"testing"

	"stet/api"
)

const (
	most  = 1 << 30
	least = -1 << 63
	great = 1<<63 - 1
)

// list is a map of numbers, three for each range.
func list(numbers ...int) []api.Range {
	var m []api.Range
	for i := 0; i < len(numbers); i += 3 {
		m = append(m, api.Range{At: numbers[i], Old: numbers[i+1], New: numbers[i+2]})
	}
	return m
}

// many is a map of so many ranges, each of one token ahead of a gap of one.
func many(count int) []api.Range {
	var m []api.Range
	for i := range count {
		m = append(m, api.Range{At: 2 * i, Old: 1, New: 2})
	}
	return m
}

// rights are maps that are right.
func rights() [][]api.Range {
	return [][]api.Range{
		nil, {}, list(0, 0, 0), list(0, 0, 1), list(0, 1, 0), list(5, 2, 3), list(most, 0, 0), list(0, most, 0), list(0, 0, most), list(most, most, most),
		list(0, 0, 0, 1, 0, 0), list(2, 1, 0, 4, 0, 0), list(2, 1, 9, 4, 3, 0), list(2, 1, 9, 4, 3, 0, 8, 0, 1), list(0, most-1, 0, most, 1, 0), list(0, 0, most, 1, 0, most), many(1000),
	}
}

// wrongs are maps that aren't.
func wrongs() [][]api.Range {
	l := [][]api.Range{
		list(2, 1, 0, 3, 0, 0), list(2, 1, 0, 2, 0, 0), list(2, 3, 0, 4, 0, 0), list(4, 0, 0, 4, 0, 0), list(4, 0, 0, 2, 0, 0), list(4, 0, 0, 2, 1, 0), list(0, 1, 0, 1, 1, 0), list(0, 0, 0, 0, 0, 0), list(1, 1, 5, 3, 1, 0, 4, 1, 0), list(1, 1, 5, 2, 1, 0, 4, 1, 0), list(0, most, 0, most, 0, 0), many(1001), many(1002), many(5000),
	}
	for _, n := range []int{least, least + 1, -most, -1, most + 1, 1 << 31, 1<<32 + 5, 1 << 40, great - 5, great} {
		l = append(l, list(n, 0, 0), list(0, n, 0), list(0, 0, n), list(5, n, 0), list(5, 0, n), list(n, 3, 3), list(1, 0, 0, n, 0, 0), list(1, 0, 0, 3, n, 0), list(1, 0, 0, 3, 0, n), list(n, n, n), list(5, n, 0, 7, 0, 0), list(n, 0, 0, 7, 0, 0))
	}
	return l
}

// P23.1: what is right, and what isn't.
func TestRight(t *testing.T) {
	for _, m := range rights() {
		if !Right(m) {
			t.Errorf("%.90v isn't right", m)
		}
	}
	for _, m := range wrongs() {
		if Right(m) {
			t.Errorf("%.90v is right", m)
		}
	}
}

// P23.1, P23.2: of a map that isn't right nothing is told.
func TestWrong(t *testing.T) {
	for _, m := range wrongs() {
		for _, at := range []int{least, -1, 0, 1, 5, 1 << 40, great} {
			for _, side := range []int{least, -1, 0, 1, great} {
				if p, e := Tell(m, at, side); p != (Place{}) || e != api.ErrArg {
					t.Errorf("%.90v at %d: %v, %v", m, at, p, e)
				}
				if n := Position(m, at, side); n != 0 {
					t.Errorf("%.90v at %d: %d", m, at, n)
				}
			}
			if n, ok := Recover(m, at, 0); n != 0 || ok {
				t.Errorf("%.90v at %d: %d", m, at, n)
			}
			if n, ok := Recover(m, 0, at); n != 0 || ok {
				t.Errorf("%.90v by %d: %d", m, at, n)
			}
		}
		if n := Shift(m); n != 0 {
			t.Errorf("%.90v shifts %d", m, n)
		}
		if w := Invert(m); len(w) != 0 {
			t.Errorf("%.90v the other way: %.90v", m, w)
		}
	}
}

// P23.1: positions are from 0 to 2^40.
func TestErrors(t *testing.T) {
	for _, m := range rights() {
		for _, at := range []int{least, least + 1, -1 << 40, -1, 1<<40 + 1, 1 << 41, great - 1, great} {
			for _, side := range []int{least, -1, 0, 1, great} {
				if p, e := Tell(m, at, side); p != (Place{}) || e != api.ErrRange || Position(m, at, side) != 0 {
					t.Errorf("%.90v at %d: %v, %v", m, at, p, e)
				}
			}
		}
		for _, side := range []int{-1, 1} {
			if p, e := Tell(m, 0, side); e != api.OK || p.Position < 0 {
				t.Errorf("%.90v at 0: %v, %v", m, p, e)
			}
			if p, e := Tell(m, 1<<40, side); e != api.OK || p != (Place{Position: 1<<40 + Shift(m)}) {
				t.Errorf("%.90v at 2^40: %v, %v", m, p, e)
			}
		}
	}
}

// P23.1: the example, and each case at each place, on both sides.
func TestTell(t *testing.T) {
	gone := func(position, number, offset int) Place {
		return Place{Position: position, Gone: true, Range: number, Offset: offset}
	}
	inside := func(position, number, offset int) Place {
		return Place{Position: position, Gone: true, Inside: true, Range: number, Offset: offset}
	}
	at := func(position int) Place { return Place{Position: position} }
	three := list(2, 0, 3, 5, 2, 0, 9, 1, 4)
	for _, x := range []struct {
		m           []api.Range
		at          int
		left, right Place
	}{
		{nil, 0, at(0), at(0)}, {nil, 7, at(7), at(7)},
		{list(5, 2, 3), 4, at(4), at(4)}, {list(5, 2, 3), 5, at(5), gone(5, 0, 0)}, {list(5, 2, 3), 6, inside(5, 0, 1), inside(8, 0, 1)}, {list(5, 2, 3), 7, gone(8, 0, 2), at(8)}, {list(5, 2, 3), 8, at(9), at(9)},
		{list(5, 0, 3), 4, at(4), at(4)}, {list(5, 0, 3), 5, at(5), at(8)}, {list(5, 0, 3), 6, at(9), at(9)},
		{list(5, 3, 0), 4, at(4), at(4)}, {list(5, 3, 0), 5, at(5), gone(5, 0, 0)}, {list(5, 3, 0), 6, inside(5, 0, 1), inside(5, 0, 1)}, {list(5, 3, 0), 7, inside(5, 0, 2), inside(5, 0, 2)}, {list(5, 3, 0), 8, gone(5, 0, 3), at(5)}, {list(5, 3, 0), 9, at(6), at(6)},
		{list(5, 1, 1), 5, at(5), gone(5, 0, 0)}, {list(5, 1, 1), 6, gone(6, 0, 1), at(6)}, {list(5, 1, 0), 5, at(5), gone(5, 0, 0)}, {list(5, 1, 0), 6, gone(5, 0, 1), at(5)},
		{list(5, 0, 0), 5, at(5), at(5)}, {list(5, 0, 0), 6, at(6), at(6)}, {list(0, 0, 2), 0, at(0), at(2)}, {list(0, 2, 0), 0, at(0), gone(0, 0, 0)}, {list(0, 2, 2), 1, inside(0, 0, 1), inside(2, 0, 1)},
		{three, 1, at(1), at(1)}, {three, 2, at(2), at(5)}, {three, 3, at(6), at(6)}, {three, 4, at(7), at(7)}, {three, 5, at(8), gone(8, 1, 0)}, {three, 6, inside(8, 1, 1), inside(8, 1, 1)}, {three, 7, gone(8, 1, 2), at(8)}, {three, 8, at(9), at(9)}, {three, 9, at(10), gone(10, 2, 0)}, {three, 10, gone(14, 2, 1), at(14)}, {three, 11, at(15), at(15)},
		{list(2, 1, 0, 4, 0, 0, 6, 2, 1), 3, gone(2, 0, 1), at(2)}, {list(2, 1, 0, 4, 0, 0, 6, 2, 1), 4, at(3), at(3)}, {list(2, 1, 0, 4, 0, 0, 6, 2, 1), 7, inside(5, 2, 1), inside(6, 2, 1)}, {list(2, 1, 0, 4, 0, 0, 6, 2, 1), 8, gone(6, 2, 2), at(6)},
		{many(1000), 1998, at(2997), gone(2997, 999, 0)}, {many(1000), 1999, gone(2999, 999, 1), at(2999)}, {many(1000), 2000, at(3000), at(3000)}, {many(1000), 1, gone(2, 0, 1), at(2)},
		{list(most, most, 0), 2*most - 1, inside(most, 0, most-1), inside(most, 0, most-1)}, {list(most, most, 0), 2 * most, gone(most, 0, most), at(most)}, {list(0, 0, most), 0, at(0), at(most)}, {list(0, most, 0), 1 << 40, at(1<<40 - most), at(1<<40 - most)},
	} {
		for _, side := range []int{least, -2, -1, 0, 1, 2, great} {
			want := x.left
			if side >= 0 {
				want = x.right
			}
			if p, e := Tell(x.m, x.at, side); p != want || e != api.OK {
				t.Errorf("%.90v at %d of side %d: %v, %v, not %v", x.m, x.at, side, p, e, want)
			}
			if n := Position(x.m, x.at, side); n != want.Position {
				t.Errorf("%.90v at %d of side %d: %d, not %d", x.m, x.at, side, n, want.Position)
			}
		}
	}
}

// P23.1, P23.2: shifts, and maps the other way, of which some aren't right.
func TestInvert(t *testing.T) {
	for _, x := range []struct {
		m, want []api.Range
		shift   int
	}{
		{nil, nil, 0}, {list(4, 0, 0), list(4, 0, 0), 0}, {list(5, 2, 3), list(5, 3, 2), 1}, {list(5, 2, 0), list(5, 0, 2), -2}, {list(5, 0, 2), list(5, 2, 0), 2}, {list(5, 3, 3), list(5, 3, 3), 0},
		{list(2, 0, 3, 5, 2, 0, 9, 1, 4), list(2, 3, 0, 8, 0, 2, 10, 4, 1), 4}, {list(0, 2, 0, 3, 2, 0, 6, 0, 1), list(0, 0, 2, 1, 0, 2, 2, 1, 0), -3},
		{list(0, 0, most, 1, 0, 2), list(0, most, 0, most+1, 2, 0), most + 2}, {list(0, 0, most, most, 0, 0), list(0, most, 0, 2*most, 0, 0), most}, {list(0, 0, 5, most-5, 0, 0), list(0, 5, 0, most, 0, 0), 5}, {list(0, 5, 0, most, most, most), list(0, 0, 5, most-5, most, most), -5},
	} {
		if w := Invert(x.m); !slices.Equal(w, x.want) {
			t.Errorf("%v the other way: %v, not %v", x.m, w, x.want)
		}
		if n := Shift(x.m); n != x.shift {
			t.Errorf("%v shifts %d, not %d", x.m, n, x.shift)
		}
	}
	w := Invert(many(1000))
	for i, r := range w {
		if r != (api.Range{At: 3 * i, Old: 2, New: 1}) {
			t.Fatal(i, r)
		}
	}
	if len(w) != 1000 || Shift(many(1000)) != 1000 {
		t.Error(len(w), Shift(many(1000)))
	}
}

// P23.2: what is recovered, from the first of a range's new tokens to behind the last one.
func TestRecover(t *testing.T) {
	m := list(2, 0, 3, 5, 2, 0, 9, 1, 4)
	for _, x := range []struct {
		at, offset, want int
		ok               bool
	}{
		{0, 0, 2, true}, {0, 1, 3, true}, {0, 3, 5, true}, {0, 4, 0, false}, {0, -1, 0, false},
		{1, 0, 8, true}, {1, 1, 0, false}, {1, 2, 0, false}, {1, -1, 0, false},
		{2, 0, 10, true}, {2, 4, 14, true}, {2, 5, 0, false},
		{3, 0, 0, false}, {-1, 0, 0, false}, {least, 0, 0, false}, {great, 0, 0, false}, {1 << 32, 0, 0, false}, {1<<32 + 1, 0, 0, false},
		{0, great, 0, false}, {0, least, 0, false}, {0, 1 << 32, 0, false}, {0, 1<<32 + 1, 0, false},
	} {
		if n, ok := Recover(m, x.at, x.offset); n != x.want || ok != x.ok {
			t.Errorf("%d, %d: %d, %v", x.at, x.offset, n, ok)
		}
	}
	if n, ok := Recover(list(most, 0, most), 0, most); n != 2*most || !ok {
		t.Error(n, ok)
	}
	if n, ok := Recover(many(1000), 999, 2); n != 2999 || !ok {
		t.Error(n, ok)
	}
	if n, ok := Recover(nil, 0, 0); n != 0 || ok {
		t.Error(n, ok)
	}
}

// row is a map of a document of so many tokens by where each token comes to stand, -1 where it is gone: the way of telling places that goes by tokens. The ends are told as tokens ahead of all and behind all.
type row struct {
	m    []api.Range
	size int
	// comes has by a token's number, and one more, where it stands; now is how many there are.
	comes []int
	now   int
}

// laid is the row of a map that keeps within so many tokens.
func laid(m []api.Range, size int) row {
	r := row{m: m, size: size, comes: []int{-1}}
	for token := 0; token <= size; token++ {
		for _, x := range m {
			if x.At == token {
				r.now += x.New
			}
		}
		if token == size {
			break
		}
		kept := true
		for _, x := range m {
			kept = kept && (token < x.At || token >= x.At+x.Old)
		}
		if !kept {
			r.comes = append(r.comes, -2)
			continue
		}
		r.comes = append(r.comes, r.now)
		r.now++
	}
	r.comes = append(r.comes, r.now)
	return r
}

// want is a position's place: beside the token at its side, or where the range stands that has it.
func (r row) want(at, side int) Place {
	if stands := r.comes[at]; side < 0 && stands != -2 {
		return Place{Position: stands + 1}
	}
	if stands := r.comes[at+1]; side >= 0 && stands != -2 {
		return Place{Position: stands}
	}
	for i, x := range r.m {
		// A range's new tokens stand behind what is ahead of it, and ahead of what is behind it.
		if at < x.At || at > x.At+x.Old || x.Old == 0 {
			continue
		}
		p := Place{Gone: true, Range: i, Offset: at - x.At, Inside: at > x.At && at < x.At+x.Old}
		if at == x.At+x.Old || p.Inside && side >= 0 {
			p.Position = r.comes[x.At+x.Old+1]
		} else {
			p.Position = r.comes[x.At] + 1
		}
		return p
	}
	return Place{}
}

// held holds a map that keeps within so many tokens against the rows of tokens.
func held(t *testing.T, m []api.Range, size int) {
	t.Helper()
	r, w := laid(m, size), Invert(m)
	if !Right(m) || Shift(m) != r.now-size || Shift(w) != size-r.now || !slices.Equal(Invert(w), m) {
		t.Fatalf("%v: %d, %v, %v", m, Shift(m), w, Invert(w))
	}
	ahead := [2]int{}
	for at := range size + 1 {
		var now [2]int
		for i, side := range []int{-1, 1} {
			p, e := Tell(m, at, side)
			if e != api.OK || p != r.want(at, side) || p.Position != Position(m, at, side) {
				t.Fatalf("%v at %d of side %d: %v, %v, not %v", m, at, side, p, e, r.want(at, side))
			}
			now[i] = p.Position
			back := Position(w, p.Position, side)
			if p.Gone {
				var ok bool
				if back, ok = Recover(w, p.Range, p.Offset); !ok {
					t.Fatalf("%v at %d of side %d isn't recovered", m, at, side)
				}
			}
			if back != at {
				t.Fatalf("%v at %d of side %d is %d there and back", m, at, side, back)
			}
		}
		if now[0] > now[1] || now[0] < ahead[0] || now[1] < ahead[1] {
			t.Fatalf("%v at %d falls: %v behind %v", m, at, now, ahead)
		}
		ahead = now
	}
	if n := Position(m, size, 1); n != r.now {
		t.Fatalf("%v ends at %d, not at %d", m, n, r.now)
	}
}

// P23.1 to P23.3: all maps of up to three ranges within a few tokens.
func TestAllSmallMaps(t *testing.T) {
	const size = 6
	count := 0
	var lay func(m []api.Range, from int)
	lay = func(m []api.Range, from int) {
		held(t, m, size)
		count++
		if len(m) == 3 {
			return
		}
		for at := from; at <= size; at++ {
			for old := range size - at + 1 {
				for _, fresh := range []int{0, 1, 3} {
					lay(append(m[:len(m):len(m)], api.Range{At: at, Old: old, New: fresh}), at+old+1)
				}
			}
		}
	}
	lay(nil, 0)
	if count < 2000 {
		t.Error(count)
	}
}

// P23.1 to P23.3: maps of many ranges, by chance.
func TestByChance(t *testing.T) {
	chance := rand.New(rand.NewPCG(23, 1))
	for range 400 {
		var m []api.Range
		at := chance.IntN(3)
		for range chance.IntN(12) {
			m = append(m, api.Range{At: at, Old: chance.IntN(5), New: chance.IntN(5)})
			at += m[len(m)-1].Old + 1 + chance.IntN(4)
		}
		held(t, m, at+chance.IntN(3))
	}
	held(t, many(1000), 2001)
}

// P23.1: a map is right just if each range stands behind the one ahead, by a gap, and numbers and ranges aren't too many.
func TestRightByChance(t *testing.T) {
	chance := rand.New(rand.NewPCG(23, 2))
	right := 0
	for range 20000 {
		var m []api.Range
		for range chance.IntN(4) {
			m = append(m, api.Range{At: chance.IntN(9) - 1, Old: max(chance.IntN(4)-1, 0), New: max(chance.IntN(30)-1, -1)})
		}
		want := true
		for i, x := range m {
			want = want && min(x.At, x.Old, x.New) >= 0
			for _, y := range m[i+1:] {
				want = want && y.At > x.At+x.Old
			}
		}
		if Right(m) != want {
			t.Fatal(m, want)
		}
		if _, e := Tell(m, 3, 0); (e == api.OK) != want {
			t.Fatal(m, e)
		}
		if want {
			right++
		}
	}
	if right < 5000 || right > 15000 {
		t.Error(right)
	}
}

// P3, P6: maps stay as they are, spare room too; what is answered is new, and the same each time.
func TestStays(t *testing.T) {
	room := list(2, 0, 3, 5, 2, 0, 9, 1, 4, 7, 7, 7)
	was := slices.Clone(room)
	for range 3 {
		m := room[:3]
		p, e := Tell(m, 6, 1)
		if p != (Place{Position: 8, Gone: true, Inside: true, Range: 1, Offset: 1}) || e != api.OK || !Right(m) || Shift(m) != 4 || Position(m, 3, 1) != 6 {
			t.Fatal(p, e)
		}
		w := Invert(m)
		if n, ok := Recover(w, 1, 1); n != 6 || !ok {
			t.Fatal(n, ok)
		}
		_ = append(w, api.Range{At: 1})
		clear(w)
		if back := Invert(list(4, 0, 0)); !slices.Equal(back, list(4, 0, 0)) {
			t.Fatal(back)
		}
		if !slices.Equal(room, was) {
			t.Fatal(room)
		}
	}
	same := list(4, 0, 0)
	w := Invert(same)
	w[0].At = 9
	if same[0].At != 4 {
		t.Error(same)
	}
}
