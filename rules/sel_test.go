package rules

import (
	"slices"
	"testing"

	"stet/api"
	"stet/near"
	"stet/schema"
	"stet/sel"
	"stet/token"
	"stet/tree"
	"stet/words"
)

// sels are selections by numbers that nobody would mean.
func sels() []api.Sel {
	var l []api.Sel
	for _, kind := range append(numbers(), api.SelAll, 4, 1<<32+1, 1<<32+2) {
		for _, anchor := range append(numbers(), 4, 1<<32, 1<<32+1) {
			for _, head := range append(numbers(), 3, 5, 8, 1<<32+2) {
				l = append(l, api.Sel{Kind: kind, Anchor: anchor, Head: head})
			}
		}
	}
	return l
}

// checkSel holds what is told of a selection against whether it is valid.
func checkSel(t *testing.T, s *schema.Schema, n *tree.Node, x api.Sel) bool {
	t.Helper()
	right := sel.Right(s, n, x)
	from, to := sel.Span(x)
	c, ok := sel.Content(s, n, x)
	if ok != right || !ok && (len(c.Tokens) > 0 || c.Left != 0 || c.Right != 0) || ok && len(c.Tokens) != to-from {
		t.Errorf("%v of %v: %v, %v", x, n, c, ok)
	}
	if m := sel.Marks(s, n, x); m != (api.Marks{}) && (!right || x.Kind != api.SelText) {
		t.Errorf("%v of %v: %v", x, n, m)
	}
	if right && (s == nil || n == nil) {
		t.Errorf("%v is valid of %v", x, n)
	}
	return right
}

// P1, P2, P5: selections of nodes that nobody would mean, by numbers of any size, which aren't let go round, are valid, or aren't.
func TestSels(t *testing.T) {
	all := append(nodes(t)[:30:30], lineTree(compiled(t), `<p=9 b*br link=4*br > *hr <p >`))
	valid := 0
	for _, s := range schemas(t) {
		for _, n := range all {
			for _, x := range sels() {
				if checkSel(t, s, n, x) {
					valid++
				}
				text, ok := sel.Text(s, n, x.Anchor, x.Head)
				if ok != sel.Right(s, n, api.Sel{Kind: api.SelText, Anchor: x.Anchor, Head: x.Head}) || !ok && text != (api.Sel{}) {
					t.Error(x, text, ok)
				}
				node, ok := sel.Node(s, n, x.Anchor)
				if ok != sel.Right(s, n, node) || !ok && node != (api.Sel{}) {
					t.Error(x, node, ok)
				}
			}
		}
	}
	if valid < 20 {
		t.Error(valid)
	}
}

// P1, P2, P5: what is near numbers of any size in nodes that nobody would mean is there, or it is zero.
func TestNears(t *testing.T) {
	all := append(nodes(t)[:30:30], lineTree(compiled(t), `<p=9 b*br link=4*br > *hr <p >`))
	for _, s := range schemas(t) {
		for _, n := range all {
			places := slices.Collect(near.Places(s, n))
			if len(places) > 0 && (s == nil || n == nil) {
				t.Errorf("%v: %v", n, places)
			}
			for i, x := range places {
				if !sel.Right(s, n, x) || i > 0 && places[i-1].Anchor >= x.Anchor {
					t.Errorf("%v: %v", n, places)
				}
			}
			for _, at := range append(numbers(), 3, 4, 1<<32, 1<<32+1) {
				next, some := near.Next(s, n, at)
				if !some && next != (api.Sel{}) || some && (next.Anchor < at || !slices.Contains(places, next)) {
					t.Errorf("next at %d of %v: %v", at, n, next)
				}
				last, more := near.Last(s, n, at)
				if !more && last != (api.Sel{}) || more && (last.Anchor >= at || !slices.Contains(places, last)) {
					t.Errorf("last at %d of %v: %v", at, n, last)
				}
				x := near.Near(s, n, at)
				if (x == api.Sel{}) != (s == nil || n == nil) || some && x != next || !some && more && x != last {
					t.Errorf("near %d of %v: %v", at, n, x)
				}
			}
		}
	}
}

// selSay is what is told of a line's tree by its selections, as words.
func selSay(t *testing.T, line string) []string {
	t.Helper()
	s := compiled(t)
	n := lineTree(s, line)
	var said []string
	tell := func(x api.Sel) {
		from, to := sel.Span(x)
		c, _ := sel.Content(s, n, x)
		w, _ := token.Show(s, c.Tokens)
		for _, k := range []int{x.Kind, x.Anchor, x.Head, from, to, c.Left, c.Right} {
			said = append(said, words.Show(k))
		}
		said = append(said, w)
		for _, k := range sel.Marks(s, n, x) {
			said = append(said, words.Show(int(k)))
		}
	}
	tell(sel.All(n))
	for at := range n.Size() {
		node, _ := sel.Node(s, n, at)
		tell(node)
		next, _ := near.Next(s, n, at)
		tell(next)
		last, _ := near.Last(s, n, at)
		tell(last)
		tell(near.Near(s, n, at))
		for to := range n.Size() {
			text, _ := sel.Text(s, n, at, to)
			tell(text)
		}
	}
	for x := range near.Places(s, n) {
		tell(x)
	}
	return said
}

// P3, P6: nodes stay as they are, whatever is selected in them, and done with what was answered.
func TestSelsStay(t *testing.T) {
	const line = `<p=9 b*br link=4*br > *hr <p >`
	was := selSay(t, line)
	s := compiled(t)
	n := lineTree(s, line)
	for x := range near.Places(s, n) {
		c, ok := sel.Content(s, n, x)
		if !ok {
			t.Error(x)
		}
		_ = append(c.Tokens, api.Token{Kind: 9})
		clear(c.Tokens)
	}
	c, _ := sel.Content(s, n, sel.All(n))
	_ = append(c.Tokens, api.Token{Kind: 9})
	clear(c.Tokens)
	if w, ok := token.Show(s, n.Tokens()); w != line || !ok {
		t.Error(w)
	}
	if now := selSay(t, line); !slices.Equal(now, was) {
		t.Error(now, was)
	}
}
