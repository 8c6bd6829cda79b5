package fill

import (
	"math/rand/v2"
	"slices"
	"strings"
	"testing"

	"stet/api"
	"stet/fits"
	"stet/schema"
	"stet/token"
	"stet/tree"
)

// contentByChance is the text of an expression by chance, of these names.
func contentByChance(chance *rand.Rand, deep int, names ...string) string {
	kind := chance.IntN(4)
	if deep == 0 || kind == 0 {
		return name(chance, names)
	}
	if kind == 1 {
		counts := []string{"*", "+", "?", "{2}", "{2,}", "{0,2}", "{1,3}"}
		return "(" + contentByChance(chance, deep-1, names...) + ")" + counts[chance.IntN(len(counts))]
	}
	var l []string
	for range 2 + chance.IntN(2) {
		l = append(l, contentByChance(chance, deep-1, names...))
	}
	return "(" + strings.Join(l, []string{" ", "|"}[kind-2]) + ")"
}

// name is one of names by chance.
func name(chance *rand.Rand, names []string) string { return names[chance.IntN(len(names))] }

// schemaByChance is a schema by chance of few types: blocks of blocks, blocks of inline types, and leaves of both kinds.
func schemaByChance(t *testing.T, chance *rand.Rand) (*schema.Schema, string) {
	for {
		blocks, inlines := []string{"a"}, []string{"text"}
		kinds := []int{chance.IntN(4)}
		for i := range 1 + chance.IntN(6) {
			kind := chance.IntN(7)
			name := string(rune('b' + i))
			kinds = append(kinds, kind)
			if kind == 6 {
				inlines = append(inlines, name)
			} else {
				blocks = append(blocks, name)
			}
		}
		text := ""
		for i, kind := range kinds {
			text += "node " + string(rune('a'+i)) + []string{" : ", " : ", " : ", " : ", "", "", " inline"}[kind]
			switch kind {
			case 0:
				text += name(chance, blocks[min(i, len(blocks)-1):]) + []string{"", "+", "?"}[chance.IntN(3)]
			case 1, 2:
				text += contentByChance(chance, chance.IntN(4), blocks[min(i, len(blocks)-1):]...)
			case 3:
				text += contentByChance(chance, chance.IntN(3), inlines...)
			}
			text += "\n"
		}
		s, e := schema.New(text)
		if e == api.OK {
			return s, text
		}
		if e != api.ErrFull {
			t.Fatal(text, e)
		}
	}
}

// most is how many tokens the nodes have of which the model knows.
const most = 40

// sizes tell of each type how many tokens its nodes may have that have no text: a node of so many is some nodes of fewer, one behind the other.
func sizes(s *schema.Schema) [][]bool {
	may := make([][]bool, s.Types()+1)
	// come are, by type, state and count, whether so many tokens of nodes come to the state.
	come := make([][][]bool, s.Types()+1)
	for typ := range may {
		may[typ] = make([]bool, most+1)
		come[typ] = make([][]bool, s.Table(typ).States())
		for state := range come[typ] {
			come[typ][state] = make([]bool, most+1)
			come[typ][state][0] = state == 0
		}
	}
	for count := 1; count <= most; count++ {
		for typ := 1; typ <= s.Types(); typ++ {
			if s.Leaf(typ) {
				may[typ][count] = count == 1
				continue
			}
			for state := range come[typ] {
				may[typ][count] = may[typ][count] || count >= 2 && come[typ][state][count-2] && s.Table(typ).Accepts(state)
			}
		}
		for typ := range come {
			for state := range come[typ] {
				for kid := range s.Types() + 1 {
					next, ok := s.Table(typ).Next(state, kid)
					for size := 1; ok && size <= count; size++ {
						come[typ][next][count] = come[typ][next][count] || may[kid][size] && come[typ][state][count-size]
					}
				}
			}
		}
	}
	return may
}

// row is a word of types, and what it costs.
type row struct {
	word  []int
	price int
}

// better tells whether a word is better than another one, by the words of layer 9.
func better(a, b *row) bool {
	if b == nil || a.price != b.price {
		return b == nil || a.price < b.price
	}
	if len(a.word) != len(b.word) {
		return len(a.word) < len(b.word)
	}
	for i := range a.word {
		if a.word[i] != b.word[i] {
			return a.word[i] < b.word[i]
		}
	}
	return false
}

// reached are the best words by which one comes to each state of a type from one of them, found by laying types behind words till nothing turns.
func reached(s *schema.Schema, typ, from int, price func(int) (int, bool)) []*row {
	best := make([]*row, s.Table(typ).States())
	best[from] = &row{}
	for turned := true; turned; {
		turned = false
		for state, ahead := range best {
			for kid := 0; ahead != nil && kid <= s.Types(); kid++ {
				next, ok := s.Table(typ).Next(state, kid)
				p, had := price(kid)
				if !ok || !had {
					continue
				}
				if r := (&row{append(slices.Clone(ahead.word), kid), ahead.price + p}); better(r, best[next]) {
					best[next], turned = r, true
				}
			}
		}
	}
	return best
}

// gapOf is the best word between others, of words that are tried to all states.
func gapOf(s *schema.Schema, typ int, ahead, behind []int, price func(int) (int, bool)) *row {
	var best *row
	from, ok := s.Table(typ).Run(0, ahead...)
	if !ok {
		return nil
	}
	for _, r := range reached(s, typ, from, price) {
		if r != nil && s.Fits(typ, slices.Concat(ahead, r.word, behind)...) && better(r, best) {
			best = r
		}
	}
	return best
}

// pricesOf are the types' prices: of how many tokens the least node is.
func pricesOf(s *schema.Schema) func(int) (int, bool) {
	may := sizes(s)
	return func(typ int) (int, bool) {
		at := slices.Index(may[typ], true)
		return max(at, 0), at > 0
	}
}

// P19.1, P19.4: schemas by chance: the price is the size of the least node that there may be, each node has in it the best word, and is right.
func TestFillingsByChance(t *testing.T) {
	chance := rand.New(rand.NewPCG(19, 1))
	count, none := 0, 0
	for range 1500 {
		s, lines := schemaByChance(t, chance)
		price := pricesOf(s)
		for typ := range s.Types() + 1 {
			want, is := price(typ)
			p, ok := Price(s, typ)
			if ok && p > most {
				continue
			}
			if p != want || ok != is {
				t.Fatalf("%s: the price of %d: %d, %v, not %d, %v", lines, typ, p, ok, want, is)
			}
			l, ok := Node(s, typ)
			in, had := Content(s, typ)
			if ok != is || had != is || len(l) != want {
				t.Fatalf("%s: %d: %v, %v", lines, typ, l, in)
			}
			if !ok {
				none++
				continue
			}
			count++
			checkNode(t, s, lines, typ, l, in, price)
		}
	}
	if count < 3000 || none < 1000 {
		t.Error(count, none)
	}
}

// checkNode holds a node with its least filling against what is said of it.
func checkNode(t *testing.T, s *schema.Schema, lines string, typ int, l, in []api.Token, price func(int) (int, bool)) {
	t.Helper()
	doc, e := tree.Build(s, l)
	if e != api.OK || doc.Kids() != 1 || !token.Same(doc.Kid(0).Tokens(), in) {
		t.Fatalf("%s: %d: %v, %v, %v", lines, typ, l, in, e)
	}
	n := doc.Kid(0)
	if at, e := fits.Tree(s, n); at != 0 || e != api.OK || n.Type() != typ || n.Attr() != 0 || n.Marks() != (api.Marks{}) {
		t.Fatalf("%s: %d: %v: %d, %v", lines, typ, l, at, e)
	}
	if s.Leaf(typ) {
		return
	}
	if want := gapOf(s, typ, nil, nil, price); want == nil || !slices.Equal(types(n), want.word) {
		t.Fatalf("%s: in %d stands %v, not %v", lines, typ, types(n), want)
	}
	for i := range n.Kids() {
		if same, _ := Node(s, n.Kid(i).Type()); !token.Same(same, n.Kid(i).Whole()) {
			t.Fatalf("%s: in %d stands %v, not %v", lines, typ, n.Kid(i).Whole(), same)
		}
	}
}

// types are the types of a node's kids.
func types(n *tree.Node) []int {
	var l []int
	for i := range n.Kids() {
		l = append(l, n.Kid(i).Type())
	}
	return l
}

// prices are what Price tells of all types.
func prices(s *schema.Schema) func(int) (int, bool) {
	var l []int
	for typ := range s.Types() + 1 {
		p, ok := Price(s, typ)
		l = append(l, map[bool]int{true: p, false: -1}[ok])
	}
	return func(typ int) (int, bool) { return max(l[typ], 0), l[typ] >= 0 }
}

// typeByChance is a type by chance, mostly one in which something may stand.
func typeByChance(chance *rand.Rand, s *schema.Schema) int {
	typ := chance.IntN(s.Types() + 1)
	for range 4 {
		if s.Leaf(typ) {
			typ = chance.IntN(s.Types() + 1)
		}
	}
	return typ
}

// kidsByChance are types by chance that mostly may begin what stands in a type, from a state of it on.
func kidsByChance(chance *rand.Rand, s *schema.Schema, typ, state int) []int {
	l := []int{}
	for range chance.IntN(5) {
		kid := chance.IntN(s.Types() + 1)
		if may := s.Table(typ).Symbols(state).List(); len(may) > 0 && chance.IntN(9) > 0 {
			kid = may[chance.IntN(len(may))]
		}
		l = append(l, kid)
		state, _ = s.Table(typ).Next(state, kid)
	}
	return l
}

// endsByChance are types ahead of a gap and behind it, mostly of what may stand in a type.
func endsByChance(chance *rand.Rand, s *schema.Schema, typ int) (ahead, behind []int) {
	l := append(kidsByChance(chance, s, typ, 0), kidsByChance(chance, s, typ, chance.IntN(s.Table(typ).States()+1))...)
	for range 20 {
		if s.Fits(typ, l...) {
			break
		}
		l = kidsByChance(chance, s, typ, 0)
	}
	from := chance.IntN(len(l) + 1)
	to := from + chance.IntN(len(l)-from+1)
	return l[:from:from], l[to:]
}

// P19.2: gaps of schemas by chance.
func TestGapsByChance(t *testing.T) {
	chance := rand.New(rand.NewPCG(19, 2))
	count, none, long := 0, 0, 0
	for range 3000 {
		s, lines := schemaByChance(t, chance)
		own := prices(s)
		for range 4 {
			typ := typeByChance(chance, s)
			ahead, behind := endsByChance(chance, s, typ)
			want := gapOf(s, typ, ahead, behind, own)
			w, ok := Gap(s, typ, ahead, behind)
			if ok != (want != nil) || ok && !slices.Equal(w, want.word) || !ok && w != nil {
				t.Fatalf("%s: Gap(%d, %v, %v) = %v, %v, not %v", lines, typ, ahead, behind, w, ok, want)
			}
			switch {
			case !ok:
				none++
			case len(w) > 0:
				long++
			default:
				count++
			}
		}
	}
	if count < 500 || none < 500 || long < 500 {
		t.Error(count, none, long)
	}
}

// P19.2: no word at all is better, of all that are tried.
func TestAllGaps(t *testing.T) {
	chance := rand.New(rand.NewPCG(19, 3))
	const limit = 7
	count := 0
	for range 6000 {
		s, lines := schemaByChance(t, chance)
		typ := typeByChance(chance, s)
		if s.Leaf(typ) {
			continue
		}
		ahead, behind := endsByChance(chance, s, typ)
		had := prices(s)
		var best *row
		var try func(w []int, price int)
		try = func(w []int, price int) {
			if r := (&row{slices.Clone(w), price}); s.Fits(typ, slices.Concat(ahead, w, behind)...) && better(r, best) {
				best = r
			}
			for kid := range s.Types() + 1 {
				if p, ok := had(kid); ok && price+p <= limit {
					if _, ok := s.Table(typ).Run(0, slices.Concat(ahead, w, []int{kid})...); ok {
						try(append(w, kid), price+p)
					}
				}
			}
		}
		try(nil, 0)
		w, ok := Gap(s, typ, ahead, behind)
		price := 0
		for _, kid := range w {
			p, _ := had(kid)
			price += p
		}
		switch {
		case best != nil && (!ok || !slices.Equal(w, best.word)), best == nil && ok && price <= limit:
			t.Fatalf("%s: Gap(%d, %v, %v) = %v, %v, not %v", lines, typ, ahead, behind, w, ok, best)
		case ok && len(w) > 0:
			count++
		}
	}
	if count < 300 {
		t.Error(count)
	}
}

// wrapOf is the first wrap of all lists of types, the shorter ones ahead, and of as long ones those with lesser types.
func wrapOf(s *schema.Schema, typ int, ahead []int, kid int) ([]int, bool) {
	if s.Leaf(typ) || typ < 1 || typ > s.Types() {
		return nil, false
	}
	may := func(w []int) bool {
		if len(w) == 1 {
			_, ok := s.Table(typ).Run(0, append(slices.Clone(ahead), w[0])...)
			return ok
		}
		return s.Fits(w[len(w)-2], w[len(w)-1])
	}
	var try func(w []int, more int) ([]int, bool)
	try = func(w []int, more int) ([]int, bool) {
		if more == 0 {
			return w, may(append(slices.Clone(w), kid))
		}
		for next := range s.Types() + 1 {
			if longer := append(slices.Clone(w), next); may(longer) {
				if found, ok := try(longer, more-1); ok {
					return found, true
				}
			}
		}
		return nil, false
	}
	for length := range s.Types() + 1 {
		if w, ok := try(nil, length); ok {
			return w, true
		}
	}
	return nil, false
}

// nestedByChance is a schema by chance in which types stand alone in others, or don't.
func nestedByChance(t *testing.T, chance *rand.Rand) (*schema.Schema, string) {
	names := []string{"a", "b", "c", "d", "e", "f", "g", "h"}[:3+chance.IntN(6)]
	text := ""
	for _, one := range names {
		text += "node " + one + " :"
		switch chance.IntN(5) {
		case 0:
			text += " text*"
		case 1:
			text += " (" + name(chance, names) + "|" + name(chance, names) + ")+"
		case 2:
			text += " " + name(chance, names) + "? " + name(chance, names)
		default:
			text += " " + name(chance, names) + []string{"", " " + name(chance, names), "|" + name(chance, names) + "{2}"}[chance.IntN(3)]
		}
		text += "\n"
	}
	s, e := schema.New(text)
	if e != api.OK {
		t.Fatal(text, e)
	}
	return s, text
}

// P19.3: wraps of schemas by chance.
func TestWrapsByChance(t *testing.T) {
	chance := rand.New(rand.NewPCG(19, 4))
	lengths := map[int]int{}
	for i := range 5000 {
		s, lines := schemaByChance(t, chance)
		if i%2 == 0 {
			s, lines = nestedByChance(t, chance)
		}
		for range 6 {
			typ := typeByChance(chance, s)
			ahead := kidsByChance(chance, s, typ, 0)
			if _, ok := s.Table(typ).Run(0, ahead...); !ok && chance.IntN(8) > 0 {
				ahead = nil
			}
			kid := chance.IntN(s.Types() + 2)
			want, is := wrapOf(s, typ, ahead, kid)
			w, ok := Wrap(s, typ, ahead, kid)
			if ok != is || !slices.Equal(w, want) || !ok && w != nil {
				t.Fatalf("%s: Wrap(%d, %v, %d) = %v, %v, not %v, %v", lines, typ, ahead, kid, w, ok, want, is)
			}
			if ok {
				lengths[len(w)]++
			} else {
				lengths[-1]++
			}
		}
	}
	for length := -1; length < 4; length++ {
		if lengths[length] < 50 {
			t.Error(lengths)
		}
	}
}
