package rules

import (
	"slices"
	"testing"

	"stet/api"
	"stet/route"
	"stet/smap"
	"stet/words"
)

// rangeLists are maps that nobody would mean, and some that are right.
func rangeLists() [][]api.Range {
	l := [][]api.Range{nil, {}, {{}}, {{At: 5, Old: 2, New: 3}}, {{At: 2, New: 3}, {At: 5, Old: 2}, {At: 9, Old: 1, New: 4}}, {{}, {}}, make([]api.Range, 1001), make([]api.Range, 70000)}
	for _, n := range append(numbers(), 1<<30, 1<<30+1, 1<<32+1) {
		l = append(l, []api.Range{{At: n}}, []api.Range{{Old: n}}, []api.Range{{New: n}}, []api.Range{{At: n, Old: n, New: n}}, []api.Range{{At: 1, Old: n}, {At: n}}, []api.Range{{}, {At: 3, New: n}, {At: n}})
	}
	return l
}

// P1, P2, P5: maps and positions that nobody would mean are refused, of numbers of any size, which aren't let go round.
func TestMaps(t *testing.T) {
	right := 0
	for i, m := range rangeLists() {
		ok := smap.Right(m)
		if ok {
			right++
		}
		for _, r := range m {
			if ok && (min(r.At, r.Old, r.New) < 0 || max(r.At, r.Old, r.New) > 1<<30) {
				t.Errorf("%v is right", r)
			}
		}
		if w := smap.Invert(m); !ok && w != nil || ok && len(w) != len(m) {
			t.Error(i, w)
		}
		if n := smap.Shift(m); !ok && n != 0 {
			t.Error(i, n)
		}
		for _, at := range append(numbers(), 3, 1<<40, 1<<40+1, 1<<32+1) {
			for _, side := range numbers() {
				want := api.OK
				switch {
				case !ok:
					want = api.ErrArg
				case at < 0 || at > 1<<40:
					want = api.ErrRange
				}
				p, e := smap.Tell(m, at, side)
				if e != want || e != api.OK && p != (smap.Place{}) || p.Position != smap.Position(m, at, side) || p.Position < 0 {
					t.Errorf("%d at %d: %v, %v", i, at, p, e)
				}
				if n, found := smap.Recover(m, at, side); !found && n != 0 || found && (!ok || at < 0 || at >= len(m) || side < 0 || side > m[at].New) {
					t.Errorf("%d at %d by %d: %d", i, at, side, n)
				}
			}
		}
	}
	if right < 20 {
		t.Error(right)
	}
}

// P1, P2, P5: routes of such maps, nil ones and zero ones, asked of numbers of any size.
func TestRoutes(t *testing.T) {
	var none *route.Route
	for i, m := range rangeLists() {
		want := api.OK
		if !smap.Right(m) {
			want = api.ErrArg
		}
		for _, of := range numbers() {
			if e := none.Mirror(m, of); e != api.ErrNil || none.Add(m) != api.ErrNil {
				t.Error(i, of, e)
			}
			var r route.Route
			if e := r.Add(m); e != want {
				t.Error(i, e)
			}
			then := want
			if want == api.OK && of != 0 {
				then = api.ErrNone
			}
			if e := r.Mirror(m, of); e != then {
				t.Error(i, of, e)
			}
			for _, x := range []*route.Route{none, &r, r.From(of), r.Invert()} {
				for _, at := range append(numbers(), 3, 1<<40, 1<<40+1) {
					p, e := x.Tell(at, of)
					if e != api.OK && p != (smap.Place{}) || p.Position != x.Position(at, of) || p.Range != 0 || p.Offset != 0 || (e == api.ErrNil) != (x == nil) {
						t.Error(i, of, at, p, e)
					}
				}
				if k, ok := x.Of(of); !ok && k != 0 || ok && (k < 0 || k >= x.Len()) || x.At(of) != nil && (of < 0 || of >= x.Len()) {
					t.Error(i, of, k, ok)
				}
			}
		}
	}
	if none.Len() != 0 || none.From(0) != nil || none.Invert() != nil {
		t.Error("nil has maps")
	}
}

// P2: of the errors of maps and routes the first one is told.
func TestFirstRouteFault(t *testing.T) {
	wrong := []api.Range{{At: 2, Old: 1}, {At: 3}}
	if p, e := smap.Tell(wrong, -1, 0); p != (smap.Place{}) || e != api.ErrArg {
		t.Error(p, e)
	}
	var r route.Route
	for range 5000 {
		if e := r.Add(nil); e != api.OK {
			t.Fatal(e)
		}
	}
	for _, x := range []struct {
		r    *route.Route
		m    []api.Range
		want api.Errno
	}{{nil, wrong, api.ErrNil}, {&r, wrong, api.ErrArg}, {&r, nil, api.ErrLong}, {r.From(1), nil, api.ErrNone}} {
		if e := x.r.Mirror(x.m, -1); e != x.want {
			t.Error(e, x.want)
		}
	}
}

// routed is a route of three maps, the last one of which mirrors the first one.
func routed(t *testing.T) *route.Route {
	t.Helper()
	var r route.Route
	m := []api.Range{{At: 5, Old: 3}, {}}
	e, f := r.Add(m[:1]), r.Add([]api.Range{{At: 0, New: 2}})
	m[0] = api.Range{At: 7, New: 3}
	if g := r.Mirror(m[:1], 0); e != api.OK || f != api.OK || g != api.OK || m[1] != (api.Range{}) {
		t.Fatal(e, f, g, m)
	}
	// It isn't kept.
	clear(m)
	return &r
}

// routeSay is what is told of a route, as words.
func routeSay(t *testing.T) []string {
	t.Helper()
	var said []string
	r := routed(t)
	for _, r := range []*route.Route{r, r.From(1), r.Invert()} {
		for i := range r.Len() {
			k, ok := r.Of(i)
			said = append(said, words.Show(k))
			for _, x := range r.At(i) {
				said = append(said, words.Show(x.At), words.Show(x.Old), words.Show(x.New))
			}
			w, at := smap.Invert(r.At(i)), smap.Shift(r.At(i))
			n, found := smap.Recover(w, 0, 2)
			said = append(said, words.Show(w[0].At), words.Show(at), words.Show(n))
			if ok && found {
				said = append(said, "mirror")
			}
		}
		for at := range 12 {
			p, e := r.Tell(at-1, at%2-1)
			said = append(said, words.Show(p.Position), e.Error())
			if p.Gone {
				said = append(said, "gone")
			}
			if p.Inside {
				said = append(said, "inside")
			}
		}
	}
	return said
}

// P3, P6: routes stay as they are, whatever is told of them, and done with it.
func TestRoutesStay(t *testing.T) {
	was := routeSay(t)
	r := routed(t)
	for range 2 {
		clear(r.At(0))
		_ = append(r.At(1), api.Range{At: 1})
		clear(r.From(0).At(2))
		clear(r.Invert().At(2))
		r.From(1).Add(nil)
		r.From(0).Mirror(nil, 1)
		r.Invert().Mirror(nil, 1)
		if k, ok := r.Of(1); ok || r.Len() != 3 || r.Position(6, 0) != 8 || !slices.Equal(r.At(0), []api.Range{{At: 5, Old: 3}}) || !slices.Equal(r.At(2), []api.Range{{At: 7, New: 3}}) {
			t.Error(k, ok, r.Len(), r.At(0))
		}
	}
	if now := routeSay(t); !slices.Equal(now, was) {
		t.Error(now, was)
	}
}
