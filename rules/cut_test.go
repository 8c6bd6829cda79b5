package rules

import (
	"slices"
	"testing"

	"stet/api"
	"stet/cut"
	"stet/schema"
	"stet/spot"
	"stet/token"
	"stet/tree"
	"stet/words"
)

// lineTree is a line's tree, or nil.
func lineTree(s *schema.Schema, line string) *tree.Node {
	l, _, _ := token.Parse(s, line)
	n, _ := tree.Build(s, l)
	return n
}

// nodes are nodes of each kind, nil and one that no call made among them, and some that nobody would mean.
func nodes(t *testing.T) []*tree.Node {
	n := lineTree(compiled(t), `<p=9 "ab b"c link=4*br > *hr <p >`)
	l := []*tree.Node{nil, {}, n, n.Kid(0), n.Kid(0).Kid(0), n.Kid(1), n.Kid(2)}
	kids := l[1:7:7]
	for _, x := range tokens() {
		l = append(l, tree.Make(x, kids...))
	}
	return l
}

// P1, P2, P5: nodes are cut, joined and held against each other, and positions looked for, by numbers of any size.
func TestCuts(t *testing.T) {
	all := nodes(t)
	for i, n := range all {
		size := len(n.Tokens())
		for _, from := range append(numbers(), 3, 1<<32+1) {
			for _, to := range append(numbers(), 3, 1<<32+1) {
				want := from >= 0 && from <= to && to <= size && n != nil && !n.Leaf()
				if c, e := cut.Cut(n, from, to); (e == api.OK) != want && i != 1 || (c == nil) != (e != api.OK) {
					t.Errorf("Cut(%d, %d): %v", from, to, e)
				}
				if l := cut.Texts(n, from, to); !want && len(l) > 0 || len(l) > size {
					t.Errorf("Texts(%d, %d): %v", from, to, l)
				}
			}
			s, e := spot.At(n, from)
			if want := from >= 0 && from <= size && n != nil && !n.Leaf(); (e == api.OK) != want && i != 1 || e != api.OK && s != (spot.Spot{}) {
				t.Errorf("At(%d): %v", from, e)
			}
			for _, k := range numbers() {
				if is := k >= 0 && k <= s.Depth() && e == api.OK; (s.Around(k) != nil) != is || !is && (s.Place(k) != 0 || s.Start(k) != 0 || s.End(k) != 0) {
					t.Errorf("At(%d): something is told of the depth %d", from, k)
				}
				if deep := s.Shared(k); deep < 0 || deep > s.Depth() || deep > 0 && (k < 0 || k > size) {
					t.Errorf("At(%d).Shared(%d) = %d", from, k, deep)
				}
			}
			s.Ahead()
			s.Behind()
			s.Parent()
		}
		for _, other := range append(all[:20:20], n) {
			at, ok := cut.Start(n, other)
			from, to, differ := cut.End(n, other)
			if same := token.Same(n.Tokens(), other.Tokens()); ok == same || differ == same || same && at+from+to != 0 {
				t.Errorf("%v and %v: %d, %v, %d, %d, %v", n, other, at, ok, from, to, differ)
			}
			if x := cut.Join(n, other); x != nil && len(x.Tokens()) != size+len(other.Tokens()) {
				t.Errorf("%v and %v: %v", n, other, x)
			}
		}
	}
}

// cutSay is what is told of a line's tree by its cuts and its spots, as words.
func cutSay(t *testing.T, line string) []string {
	t.Helper()
	s := compiled(t)
	n := lineTree(s, line)
	var said []string
	tell := func(numbers ...int) {
		for _, k := range numbers {
			said = append(said, words.Show(k))
		}
	}
	show := func(l ...*tree.Node) {
		for _, one := range l {
			w, _ := token.Show(s, one.Whole())
			said = append(said, w)
		}
	}
	for at := range min(n.Size(), 20) {
		c, e := cut.Cut(n, 1, at)
		i, _ := cut.Start(c, n)
		k, m, _ := cut.End(n, c)
		x, f := spot.At(n, at)
		said = append(said, e.Error(), f.Error(), string(cut.Texts(n, 1, at)))
		tell(i, k, m, x.Position(), x.Depth(), x.Inset(), x.Place(1), x.Start(1), x.End(1), x.Shared(at+1))
		show(c, cut.Join(n, c), x.Around(1), x.Parent(), x.Ahead(), x.Behind())
	}
	return said
}

// P3, P4, P6: nodes and spots stay as they are, whatever is done beside them, and with what was told of them.
func TestCutsStay(t *testing.T) {
	const line = `<p=9 "abc b"d link=4*br > *hr <p >`
	was := cutSay(t, line)
	s := compiled(t)
	n := lineTree(s, line)
	x, _ := spot.At(n, 3)
	y := x
	c, _ := cut.Cut(n, 2, 4)
	j := cut.Join(n, c)
	for _, one := range []*tree.Node{c, j, x.Ahead(), x.Behind(), x.Parent(), c.Kid(0).Kid(0)} {
		_ = append(one.Whole(), api.Token{Kind: 9})
		clear(one.Whole())
		clear(one.Tokens())
		clear(one.Text())
	}
	clear(cut.Texts(n, 0, 5))
	x, _ = spot.At(c, 1)
	if w, ok := token.Show(s, n.Tokens()); w != line || !ok || y.Position() != 3 || y.Parent() != n.Kid(0) || x == y || string(cut.Texts(j, 0, j.Size()-2)) != "abcdbc" {
		t.Error(w, y.Position(), string(cut.Texts(j, 0, j.Size()-2)))
	}
	if now := cutSay(t, line); !slices.Equal(now, was) {
		t.Error(now, was)
	}
}
