package rules

import (
	"slices"
	"testing"

	"stet/api"
	"stet/fill"
	"stet/slice"
	"stet/token"
	"stet/words"
)

// P1, P2, P5: what fills a type, and wraps it, is asked of numbers of any size, which aren't let go round, and of nil.
func TestFills(t *testing.T) {
	more := append(numbers(), 3, 4, 5, 1<<32, 1<<32+1, 1<<32+2, -1<<32+1)
	prices := map[int]int{1: 3, 2: 2, 3: 1, 4: 1}
	for _, s := range schemas(t) {
		for _, typ := range more {
			want := prices[typ]
			if s == nil {
				want = 0
			}
			p, ok := fill.Price(s, typ)
			l, is := fill.Node(s, typ)
			in, has := fill.Content(s, typ)
			if p != want || ok != (want > 0) || is != ok || has != ok || len(l) != want || len(in) != max(want-2, 0) {
				t.Errorf("%d: %d, %v, %v, %v", typ, p, ok, l, in)
			}
			for _, k := range more {
				kid := k >= 2 && k <= 4
				w, ok := fill.Gap(s, typ, []int{k}, []int{k, k})
				if may := s != nil && kid && (typ == 1) == (k < 4) && (typ == 1 || typ == 2); ok != may || len(w) > 0 {
					t.Errorf("Gap(%d, %d): %v, %v", typ, k, w, ok)
				}
				w, ok = fill.Wrap(s, typ, nil, k)
				may := s != nil && (typ == 1 && kid || typ == 2 && k == 4)
				if ok != may || (len(w) == 1) != (ok && typ == 1 && k == 4) || !ok && w != nil {
					t.Errorf("Wrap(%d, %d): %v, %v", typ, k, w, ok)
				}
				if w, ok := fill.Wrap(s, typ, []int{k}, 3); ok != (s != nil && typ == 1 && (k == 2 || k == 3)) || len(w) > 0 {
					t.Errorf("Wrap(%d, %d): %v, %v", typ, k, w, ok)
				}
			}
		}
	}
}

// P1, P2: slices of tokens and of nodes that nobody would mean, from and to numbers of any size, and slices that no call made.
func TestSlices(t *testing.T) {
	for _, s := range schemas(t) {
		for _, x := range tokens() {
			want := api.OK
			switch {
			case s == nil:
				want = api.ErrNil
			case !token.Right(s, x):
				want = api.ErrArg
			}
			got, e := slice.Of(s, []api.Token{x})
			if e != want || e != api.OK && (got.Tokens != nil || got.Left+got.Right != 0) || e == api.OK && len(got.Tokens) != 1 {
				t.Errorf("Of(%+v): %v, %v", x, got, e)
			}
			if slice.Flat([]api.Token{x}) != (x.Kind != api.Open && x.Kind != api.Close) {
				t.Errorf("Flat(%+v)", x)
			}
			if _, ok := slice.Whole(slice.Slice{Left: 1}, []api.Token{x}); ok != (x.Kind == api.Open) {
				t.Errorf("Whole(%+v)", x)
			}
		}
	}
	for i, n := range nodes(t) {
		size := len(n.Tokens())
		for _, from := range append(numbers(), 3, 1<<32+1) {
			for _, to := range append(numbers(), 3, 1<<32+1) {
				want := from >= 0 && from <= to && to <= size && n != nil && !n.Leaf() && i != 1
				x, e := slice.Cut(n, from, to)
				lead := slice.Lead(n, from, to)
				if (e == api.OK) != want || len(lead) != x.Left || len(x.Tokens) > size || e != api.OK && (x.Tokens != nil || x.Left+x.Right != 0) {
					t.Errorf("%v: Cut(%d, %d): %v, %v, %v", n, from, to, x, lead, e)
				}
			}
		}
	}
	for _, n := range numbers() {
		for _, k := range numbers() {
			x := slice.Slice{Left: n, Right: k}
			if n < 1<<31 && k < 1<<31 {
				if got := slice.Join(x, slice.Slice{}); got.Left != max(n, 0) || got.Right != max(k, 0) {
					t.Error(n, k, got)
				}
			}
			slice.Join(x, slice.Slice{Left: k, Right: n})
			if l, ok := slice.Whole(x, nil); ok != (n == 0 && k < 1<<31) || len(l) != max(min(k, 2), 0) && ok || !ok && l != nil {
				t.Error(n, k, l, ok)
			}
		}
	}
}

// fillSay is what is told of what fills and wraps, and of a line's slices, as words.
func fillSay(t *testing.T, line string) []string {
	t.Helper()
	s := compiled(t)
	var said []string
	tell := func(ok bool, numbers ...int) {
		said = append(said, map[bool]string{true: "yes", false: "no"}[ok])
		for _, k := range numbers {
			said = append(said, words.Show(k))
		}
	}
	show := func(l []api.Token) {
		w, _ := token.Show(s, l)
		said = append(said, w)
	}
	for typ := range 6 {
		p, ok := fill.Price(s, typ)
		tell(ok, p)
		l, _ := fill.Node(s, typ)
		show(l)
		l, _ = fill.Content(s, typ)
		show(l)
		w, ok := fill.Gap(s, typ, []int{2}, nil)
		tell(ok, w...)
		w, ok = fill.Wrap(s, 1, []int{2}, typ)
		tell(ok, w...)
	}
	n := lineTree(s, line)
	all := slice.Slice{}
	for at := range max(n.Size()-1, 0) {
		x, e := slice.Cut(n, at, min(at+3, n.Size()-2))
		all = slice.Join(all, x)
		whole, ok := slice.Whole(x, slice.Lead(n, at, min(at+3, n.Size()-2)))
		tell(ok && slice.Flat(whole) && e == api.OK, x.Left, x.Right, all.Left, all.Right)
		show(whole)
	}
	x, e := slice.Of(s, all.Tokens)
	tell(e == api.OK, x.Left, x.Right, len(x.Tokens))
	return said
}

// P3, P6: schemas, nodes and slices stay as they are, whatever is told of them, and done with it.
func TestFillsStay(t *testing.T) {
	const line = `<p=9 b*br link=4*br > *hr <p >`
	was := fillSay(t, line)
	s := compiled(t)
	n := lineTree(s, line)
	for range 2 {
		l, _ := fill.Node(s, 1)
		clear(l)
		l, _ = fill.Content(s, 1)
		_ = append(l, api.Token{Kind: 9})
		clear(l)
		w, _ := fill.Gap(s, 1, nil, nil)
		clear(w)
		w, _ = fill.Wrap(s, 1, nil, 4)
		clear(w)
		x, _ := slice.Cut(n, 0, 6)
		_ = append(x.Tokens, api.Token{Kind: 9})
		clear(x.Tokens)
		clear(slice.Lead(n, 2, 6))
	}
	l, _ := fill.Node(s, 1)
	gap, _ := fill.Gap(s, 1, nil, nil)
	wrap, _ := fill.Wrap(s, 1, nil, 4)
	if w, ok := token.Show(s, n.Tokens()); w != line || !ok || len(l) != 3 || l[1].Type != 3 || !slices.Equal(gap, []int{3}) || !slices.Equal(wrap, []int{2}) {
		t.Error(w, l, gap, wrap)
	}
	if now := fillSay(t, line); !slices.Equal(now, was) {
		t.Error(now, was)
	}
}

// P2: of a slice's errors the first one is told.
func TestFirstSliceFault(t *testing.T) {
	s := compiled(t)
	wrong := make([]api.Token, api.MaxSize+1)
	n := lineTree(s, `<p *br >`)
	for want, f := range map[api.Errno]func() (slice.Slice, api.Errno){
		api.ErrNil:   func() (slice.Slice, api.Errno) { return slice.Of(nil, wrong) },
		api.ErrLong:  func() (slice.Slice, api.Errno) { return slice.Of(s, wrong) },
		api.ErrArg:   func() (slice.Slice, api.Errno) { return slice.Of(s, wrong[1:]) },
		api.ErrRange: func() (slice.Slice, api.Errno) { return slice.Cut(n, 4, 3) },
	} {
		if x, e := f(); e != want || x.Tokens != nil || x.Left+x.Right != 0 {
			t.Error(x, e, want)
		}
	}
	for want, f := range map[api.Errno]func() (slice.Slice, api.Errno){
		api.ErrNil: func() (slice.Slice, api.Errno) { return slice.Cut(nil, 4, -3) },
		api.ErrArg: func() (slice.Slice, api.Errno) { return slice.Cut(n.Kid(0).Kid(0), 4, -3) },
	} {
		if x, e := f(); e != want || x.Tokens != nil || x.Left+x.Right != 0 {
			t.Error(x, e, want)
		}
	}
}
