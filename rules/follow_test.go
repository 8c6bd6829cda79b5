package rules

import (
	"slices"
	"testing"

	"stet/api"
	"stet/follow"
	"stet/near"
	"stet/pin"
	"stet/route"
	"stet/sel"
	"stet/smap"
	"stet/token"
	"stet/words"
)

// routes are nil, a zero one, and routes of maps that nobody would mean.
func routes(t *testing.T) []*route.Route {
	t.Helper()
	l := []*route.Route{nil, {}, routed(t), routed(t).From(1)}
	for _, m := range rangeLists() {
		var r route.Route
		if r.Add(m) == api.OK {
			l = append(l, &r)
		}
	}
	return l
}

// kinds are the kinds of selections, and some that nobody would mean.
func kinds() []int { return append(numbers(), api.SelAll, 4, 1<<32+1, 1<<32+2, 1<<32+3) }

// P1, P2, P5: selections that nobody would mean, of nodes that nobody would mean, come through maps to what is valid, or, of nil, to zero ones.
func TestFollows(t *testing.T) {
	all := append(nodes(t)[:24:24], lineTree(compiled(t), `<p=9 b*br link=4*br > *hr <p >`))
	ways, maps := routes(t), rangeLists()
	at := 0
	for _, s := range schemas(t) {
		for _, n := range all {
			none := s == nil || n == nil
			for _, x := range sels() {
				// Each selection in turn through another route, and over another map.
				at++
				r, m := ways[at%len(ways)], maps[at%len(maps)]
				for i, y := range []api.Sel{follow.Through(s, n, x, r), follow.Over(s, n, x, m)} {
					if none && y != (api.Sel{}) || !none && !sel.Right(s, n, y) {
						t.Errorf("%d: %v of %v: %v", i, x, n, y)
					}
				}
			}
		}
	}
}

// P1, P2, P5: pins by numbers that nobody would mean go through maps, and are resolved to what is valid, or, of nil, to zero ones.
func TestPins(t *testing.T) {
	all := append(nodes(t)[:12:12], lineTree(compiled(t), `<p=9 b*br link=4*br > *hr <p >`))
	tells := []func(position, side int) (smap.Place, api.Errno){nil,
		func(position, side int) (smap.Place, api.Errno) {
			return smap.Place{Position: -position, Gone: true, Range: side}, api.OK
		},
		func(position, side int) (smap.Place, api.Errno) {
			return smap.Place{Position: position, Offset: 3}, api.ErrNone
		},
	}
	ways := routes(t)
	at := 0
	for _, kind := range kinds() {
		for _, a := range append(numbers(), 4, 1<<32+1) {
			for _, b := range append(numbers(), 3, 5) {
				p := pin.Pin{Kind: kind, A: a, B: b}
				l := []pin.Pin{p, pin.Of(api.Sel{Kind: kind, Anchor: a, Head: b})}
				for _, tell := range tells {
					l = append(l, p.By(tell))
				}
				at++
				for _, p := range append(l, p.Through(ways[at%len(ways)])) {
					for _, s := range schemas(t) {
						n := all[at%len(all)]
						none := s == nil || n == nil
						if x := p.Resolve(s, n); none && x != (api.Sel{}) || !none && !sel.Right(s, n, x) {
							t.Errorf("%v of %v: %v", p, n, x)
						}
						if p.Kind != kind && p != (pin.Pin{}) {
							t.Errorf("%v of the kind %d", p, kind)
						}
						at++
					}
				}
			}
		}
	}
}

// followSay is what selections of a line's tree come to, as words.
func followSay(t *testing.T, line string) []string {
	t.Helper()
	s := compiled(t)
	n := lineTree(s, line)
	var said []string
	r := routed(t)
	for at := range n.Size() {
		for kind := range 5 {
			x := api.Sel{Kind: kind, Anchor: at, Head: 8 - at}
			p := pin.Of(x)
			gone := p.Through(r)
			for _, y := range []api.Sel{follow.Through(s, n, x, nil), follow.Through(s, n, x, r), follow.Over(s, n, x, r.At(1)), p.Resolve(s, n), gone.Resolve(s, n), p.By(r.Tell).Resolve(s, n)} {
				for _, k := range []int{y.Kind, y.Anchor, y.Head} {
					said = append(said, words.Show(k))
				}
			}
			said = append(said, words.Show(p.A), words.Show(p.B), words.Show(gone.A), words.Show(gone.B))
		}
	}
	return said
}

// P3, P6: nodes, routes, maps and pins stay as they are, whatever follows them.
func TestFollowsStay(t *testing.T) {
	const line = `<p=9 b*br link=4*br > *hr <p >`
	was, way := followSay(t, line), routeSay(t)
	s := compiled(t)
	n := lineTree(s, line)
	r := routed(t)
	room := []api.Range{{At: 2, New: 2}, {At: 4, Old: 1}, {At: 9, Old: 9}}
	m := slices.Clone(room)
	for x := range near.Places(s, n) {
		p := pin.Of(x)
		follow.Through(s, n, x, r)
		follow.Over(s, n, x, room[:2])
		p.Through(r)
		p.By(r.Tell)
		if p.Resolve(s, n) != x || p != pin.Of(x) {
			t.Error(x, p)
		}
	}
	if w, ok := token.Show(s, n.Tokens()); w != line || !ok || !slices.Equal(room, m) || r.Len() != 3 {
		t.Error(w, room, r.Len())
	}
	if now, then := followSay(t, line), routeSay(t); !slices.Equal(now, was) || !slices.Equal(then, way) {
		t.Error(now, was)
	}
}
