package sel

import (
	"math/rand/v2"
	"testing"

	"stet/api"
	"stet/fits"
	"stet/schema"
	"stet/token"
	"stet/tree"
)

// kidsByChance are nodes by chance: what may stand in a block, in a paragraph, or anything, whether or not it may be.
func kidsByChance(chance *rand.Rand, parent, deep int) []*tree.Node {
	blocks, inline, t := []int{2, 3, 4, 5, 8}, []int{0, 6, 7}, []int{7}
	may := map[int][]int{1: blocks, 2: blocks, 3: inline, 4: t, 8: {0}}[parent]
	if parent == 0 {
		may = []int{0, 0, 2, 3, 4, 5, 6, 7, 8}
	}
	var l []*tree.Node
	for range chance.IntN(4) {
		set := []uint16{uint16(chance.IntN(2)), uint16(chance.IntN(4) / 3 * 5)}
		if parent != 3 && parent != 0 {
			set = nil
		}
		within := func(typ int) []*tree.Node {
			if deep == 0 {
				return nil
			}
			if parent == 0 {
				typ = 0
			}
			return kidsByChance(chance, typ, deep-1)
		}
		switch typ := may[chance.IntN(len(may))]; typ {
		case 0:
			l = append(l, tree.Make(letter(rune('a'+chance.IntN(3)), set...)))
		case 5, 6, 7:
			if parent == 0 && chance.IntN(8) == 0 {
				l = append(l, tree.Make(open(typ), within(typ)...))
				continue
			}
			if typ == 5 && parent != 0 {
				set = nil
			}
			l = append(l, tree.Make(leaf(typ, set...)))
		default:
			l = append(l, tree.Make(open(typ), within(typ)...))
		}
	}
	return l
}

// model is a row of tokens within a top node of the type 1, of which the words of the chapter tell what is valid.
type model struct {
	s   *schema.Schema
	row []api.Token
}

// parent is the type of the node in which a position is.
func (m model) parent(at int) int {
	stack := []int{1}
	for _, x := range m.row[:at] {
		switch x.Kind {
		case api.Open:
			stack = append(stack, x.Type)
		case api.Close:
			stack = stack[:len(stack)-1]
		}
	}
	return stack[len(stack)-1]
}

// node is where the node ends that begins at a position, if it may be selected; else -1.
func (m model) node(at int) int {
	if at < 0 || at >= len(m.row) || m.row[at].Kind != api.Open && m.row[at].Kind != api.Leaf || !m.s.Picks(m.row[at].Type) {
		return -1
	}
	deep := 0
	for to, x := range m.row[at:] {
		switch x.Kind {
		case api.Open:
			deep++
		case api.Close:
			deep--
		}
		if deep == 0 {
			return at + to + 1
		}
	}
	return -1
}

// right tells whether a selection is valid.
func (m model) right(x api.Sel) bool {
	takes := func(at int) bool { return at >= 0 && at <= len(m.row) && m.s.Texts(m.parent(at)) }
	switch x.Kind {
	case api.SelText:
		return takes(x.Anchor) && takes(x.Head)
	case api.SelNode:
		return x.Head >= 0 && m.node(x.Anchor) == x.Head
	case api.SelAll:
		return x.Anchor == 0 && x.Head == len(m.row)
	}
	return false
}

// open is how many closes of a row shut nothing in it, and how many open tokens aren't shut in it.
func (m model) open(from, to int) (int, int) {
	left, right := 0, 0
	for _, x := range m.row[from:to] {
		switch {
		case x.Kind == api.Open:
			right++
		case x.Kind == api.Close && right > 0:
			right--
		case x.Kind == api.Close:
			left++
		}
	}
	return left, right
}

// marks is what a letter gets that is put in at a position.
func (m model) marks(at int) api.Marks {
	for _, i := range []int{at - 1, at} {
		if i >= 0 && i < len(m.row) && token.Inline(m.s, m.row[i]) {
			return m.row[i].Marks
		}
	}
	return api.Marks{}
}

// check holds all that is told of a selection against the model, and tells whether it is valid.
func (m model) check(t *testing.T, n *tree.Node, x api.Sel) bool {
	t.Helper()
	ok := m.right(x)
	if Right(m.s, n, x) != ok {
		t.Fatal(m.row, x, ok)
	}
	c, told := Content(m.s, n, x)
	got := Marks(m.s, n, x)
	if !ok {
		if told || len(c.Tokens) > 0 || c.Left != 0 || c.Right != 0 || got != (api.Marks{}) {
			t.Fatal(m.row, x, c, got)
		}
		return false
	}
	from, to := min(x.Anchor, x.Head), max(x.Anchor, x.Head)
	left, right := m.open(from, to)
	if !told || !token.Same(c.Tokens, m.row[from:to]) || c.Left != left || c.Right != right {
		t.Fatal(m.row, x, c)
	}
	want := api.Marks{}
	if x.Kind == api.SelText {
		want = m.marks(from)
	}
	if got != want {
		t.Fatal(m.row, x, got)
	}
	return true
}

// made holds what is made against the model.
func (m model) made(t *testing.T, n *tree.Node, anchor, head int) {
	t.Helper()
	for _, x := range []api.Sel{{Kind: api.SelText, Anchor: anchor, Head: head}, {Kind: api.SelNode, Anchor: anchor, Head: m.node(anchor)}} {
		got, ok := Text(m.s, n, anchor, head)
		if x.Kind == api.SelNode {
			got, ok = Node(m.s, n, anchor)
		}
		right := m.right(x)
		if !right {
			x = api.Sel{}
		}
		if ok != right || got != x {
			t.Fatal(m.row, anchor, head, got, ok)
		}
	}
}

// P31.1 to P31.3: all selections of trees by chance, of which half are right, against the words of the chapter on their tokens.
func TestByChance(t *testing.T) {
	s := made(t)
	chance := rand.New(rand.NewPCG(31, 1))
	count, fit := map[int]int{}, 0
	for i := range 900 {
		n := tree.Make(open(1), kidsByChance(chance, i%2, 3)...)
		m := model{s, n.Tokens()}
		if len(m.row) > 24 {
			continue
		}
		_, e := fits.Tree(s, n)
		if i%2 == 1 && e != api.OK {
			t.Fatal(m.row, e)
		}
		if e == api.OK {
			fit++
		}
		for anchor := -1; anchor <= len(m.row)+1; anchor++ {
			for head := -1; head <= len(m.row)+1; head++ {
				for kind := range 5 {
					if m.check(t, n, api.Sel{Kind: kind, Anchor: anchor, Head: head}) {
						count[kind]++
					}
				}
				m.made(t, n, anchor, head)
			}
		}
	}
	if count[api.SelText] < 5000 || count[api.SelNode] < 500 || count[api.SelAll] < 500 || fit < 300 {
		t.Error(count, fit)
	}
}
