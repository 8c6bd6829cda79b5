package fill

import (
	"slices"
	"strings"
	"testing"

	"stet/api"
	"stet/fits"
	"stet/schema"
	"stet/token"
	"stet/words"
)

// compiled is the schema of lines, told with / between them.
func compiled(t testing.TB, lines string) *schema.Schema {
	t.Helper()
	s, e := schema.New(strings.ReplaceAll(lines, "/", "\n") + "\n")
	if e != api.OK {
		t.Fatal(lines, e)
	}
	return s
}

// checkPrices holds all prices of a schema against those that are wanted: of text, and of the types; -1, if there is none.
func checkPrices(t *testing.T, lines string, want ...int) {
	t.Helper()
	s := compiled(t, lines)
	if len(want) != s.Types() {
		t.Fatal(lines, want)
	}
	for typ, price := range append([]int{-1}, want...) {
		got, ok := Price(s, typ)
		if ok != (price != -1) || got != max(price, 0) {
			t.Errorf("%q: the price of %d: %d, %v, not %d", lines, typ, got, ok, price)
		}
	}
}

// checkLine holds a type's least filling against a line; it may not be had, if the line is -.
func checkLine(t *testing.T, s *schema.Schema, typ int, line string) {
	t.Helper()
	l, ok := Content(s, typ)
	whole, is := Node(s, typ)
	if line == "-" {
		if ok || is || len(l) > 0 || len(whole) > 0 {
			t.Errorf("%d: %v, %v, %v, %v", typ, l, ok, whole, is)
		}
		return
	}
	if got, right := token.Show(s, l); !ok || !is || !right || got != line {
		t.Errorf("%d: %q, %v, %v, not %q", typ, got, ok, is, line)
	}
	if s.Leaf(typ) {
		if !slices.Equal(whole, []api.Token{{Kind: api.Leaf, Type: typ}}) {
			t.Errorf("%d: %v", typ, whole)
		}
	} else if want := slices.Concat([]api.Token{{Kind: api.Open, Type: typ}}, l, []api.Token{{Kind: api.Close}}); !slices.Equal(whole, want) {
		t.Errorf("%d: %v, not %v", typ, whole, want)
	}
}

// P19.1, P19.3: the examples.
func TestExample(t *testing.T) {
	s := compiled(t, "node doc : sec/node sec : title p+/node title : text*/node p : text*")
	checkLine(t, s, 1, "<sec <title > <p > >")
	if p, ok := Price(s, 1); p != 8 || !ok {
		t.Error(p, ok)
	}
	if w, ok := Wrap(s, 1, nil, 4); w != nil || ok {
		t.Error(w, ok)
	}
	s = compiled(t, "node doc : sec/node sec : p/node p : text*")
	if w, ok := Wrap(s, 1, nil, 3); !ok || !slices.Equal(w, []int{2}) {
		t.Error(w, ok)
	}
}

// P19.1: what types cost, and which have no price.
func TestPrice(t *testing.T) {
	checkPrices(t, "node doc :", 2)
	checkPrices(t, "node doc : text*", 2)
	checkPrices(t, "node doc : text", -1)
	checkPrices(t, "node doc : text?", 2)
	checkPrices(t, "node doc : a/node a", 3, 1)
	checkPrices(t, "node doc : a/node a :", 4, 2)
	checkPrices(t, "node doc : a b/node a : text/node b", -1, -1, 1)
	checkPrices(t, "node doc : a|b/node a : text/node b", 3, -1, 1)
	checkPrices(t, "node doc : a?/node a : text", 2, -1)
	checkPrices(t, "node doc : br+/node br inline attr=9", 3, 1)
	checkPrices(t, "node doc : text br|br br br/node br inline", 5, 1)
	checkPrices(t, "node doc : doc", -1)
	checkPrices(t, "node doc : doc?", 2)
	checkPrices(t, "node doc : doc|a/node a : b/node b : c/node c", 7, 5, 3, 1)
	checkPrices(t, "node doc : a/node a : b/node b : a", -1, -1, -1)
	checkPrices(t, "node doc : a/node a : b|c/node b : a/node c", 5, 3, 5, 1)
	// A price may fall long after it was found first, and others with it.
	checkPrices(t, "node doc : y/node k :/node l : k/node m : l/node n : m/node x : n|hr{20}/node y : x/node hr", 14, 2, 4, 6, 8, 10, 12, 1)
	checkPrices(t, "node doc : y/node y : x/node x : n|hr{20}/node n : m/node m : l/node l : k/node k :/node hr", 14, 12, 10, 8, 6, 4, 2, 1)
	checkPrices(t, "node doc : y/node hr/node y : x/node x : n|hr{20}/node n : m/node m : l/node l : k/node k :", 14, 1, 12, 10, 8, 6, 4, 2)
	checkPrices(t, "node doc : a+/node a : b{3}/node b : c c|a/node c : text*", 22, 20, 6, 2)
}

// P19.1: nothing else has a price, whatever it is.
func TestNoType(t *testing.T) {
	s := compiled(t, "node doc : p*/node p : text*/node hr")
	for _, typ := range []int{-1 << 63, -1, 0, 4, 24, 25, 1 << 32, 1<<32 + 1, 1<<63 - 1} {
		if p, ok := Price(s, typ); p != 0 || ok {
			t.Error(typ, p, ok)
		}
		checkLine(t, s, typ, "-")
	}
	for typ := range 4 {
		if p, ok := Price(nil, typ); p != 0 || ok {
			t.Error(typ, p, ok)
		}
		if l, ok := Node(nil, typ); len(l) > 0 || ok {
			t.Error(l, ok)
		}
		if l, ok := Content(nil, typ); len(l) > 0 || ok {
			t.Error(l, ok)
		}
	}
}

// P19.1: the tokens, with the attribute 0 and without marks; of as cheap words the shorter one, of as short ones the lesser one.
func TestContent(t *testing.T) {
	for _, x := range []struct{ lines, line string }{
		{"node doc : text*", ""},
		{"node doc : text", "-"},
		{"node doc : hr{3}/node hr attr=9 pick", "*hr *hr *hr"},
		{"mark b/node doc marks=* : br/node br inline attr=5", "*br"},
		{"node doc : a b?/node a attr=7 : b+/node b attr=9 : text*", "<a <b > >"},
		{"node doc : hr hr|p/node p :/node hr", "<p >"},
		{"node doc : hr p|p hr/node p :/node hr", "<p > *hr"},
		{"node doc : q|p/node p :/node q :", "<p >"},
		{"node doc : q p|p q/node p : hr/node q :/node hr", "<p *hr > <q >"},
		{"node doc : hr{3} p|p p/node p :/node hr", "<p > <p >"},
		{"node doc : hr{5}|p{3}/node p :/node hr", "*hr *hr *hr *hr *hr"},
		{"node doc : a|b/node a : b/node b : c c/node c :", "<b <c > <c > >"},
		{"node doc : a b/node a : b/node b : c/node c : a|d/node d", "<a <b <c *d > > > <b <c *d > >"},
		// Each type of it may be as cheap by a word that is found later on.
		{"node doc : x x|y/node x :/node y : z/node z :", "<y <z > >"},
		{"node doc : z x|y/node x :/node y : z/node z :", "<y <z > >"},
	} {
		checkLine(t, compiled(t, x.lines), 1, x.line)
	}
	s := compiled(t, "mark b/node doc : hr/node hr attr=4/node br inline attr=4")
	checkLine(t, s, 2, "")
	checkLine(t, s, 3, "")
}

// tens are types that cost 1, 10, 100, 1000, 10000, 100000, behind lines of a schema whose types they come behind.
func tens(lines ...string) string {
	return strings.Join(append(lines, "node n0", "node n1 : n0{8}", "node n2 : n1{9} n0{8}", "node n3 : n2{9} n1{9} n0{8}", "node n4 : n3{9} n2{9} n1{9} n0{8}", "node n5 : n4{9} n3{9} n2{9} n1{9} n0{8}"), "/")
}

// P19.1: no more than 20000 tokens are told; dearer nodes have a price all the same.
func TestMaxSize(t *testing.T) {
	s := compiled(t, tens("node doc : n4 n3{9} n2{9} n1{9} n0{8}", "node b : n4 n3{9} n2{9} n1{9} n0{9}", "node c : n4 n3{9} n2{9} n1{9} n0{10}", "node d : b|doc"))
	for typ, want := range []int{1: 20000, 2: 20001, 3: 20002, 4: 20002, 5: 1, 6: 10, 7: 100, 8: 1000, 9: 10000, 10: 100000} {
		price, ok := Price(s, typ)
		if price != want || ok != (typ > 0) {
			t.Error(typ, price, ok)
		}
		l, ok := Node(s, typ)
		in, is := Content(s, typ)
		if may := want > 0 && want <= api.MaxSize; ok != may || is != may || may && len(l) != want || may && len(in) != max(want-2, 0) || !may && len(l)+len(in) > 0 {
			t.Error(typ, len(l), ok, len(in), is)
		}
	}
	l, _ := Content(s, 1)
	if n, e := fits.Doc(s, l); e != api.OK || n.Size() != 20000 || n.Height() != 6 {
		t.Error(e, n.Size(), n.Height())
	}
}

// P19.1: a price above 10^6 may not be had, so that the type stands in no least filling.
func TestDear(t *testing.T) {
	const most = "n5{9} n4{9} n3{9} n2{9} n1{9} n0{"
	for _, x := range []struct {
		line string
		want int
	}{
		{"node doc : a", 1000002}, {"node doc : a{2}", 2000002}, {"node doc : b", -1}, {"node doc : a b", -1}, {"node doc : b|a a a", 3000002}, {"node doc : b?", 2}, {"node doc : b n0|c", -1}, {"node doc : (a{20}){9} a{19}", 199000002},
	} {
		s := compiled(t, tens(x.line, "node a : "+most+"8}", "node b : "+most+"9}", "node c : b"))
		for typ, want := range []int{1: x.want, 2: 1000000, 3: 1000001, 4: -1} {
			price, ok := Price(s, typ)
			if typ > 0 && (price != max(want, 0) || ok != (want > 0)) {
				t.Errorf("%q: %d costs %d, %v, not %d", x.line, typ, price, ok, want)
			}
		}
		if w, ok := Gap(s, 1, nil, nil); ok != (x.want > 0) || ok && slices.Contains(w, 3) {
			t.Errorf("%q: %v, %v", x.line, w, ok)
		}
	}
}

// P19.4: prices go through as many types as there may be, whichever way they are declared.
func TestLongWay(t *testing.T) {
	down, up := []string{"node n1 : n2"}, []string{"node n1 : n24", "node n2"}
	for i := 2; i < 24; i++ {
		down = append(down, "node n"+words.Show(i)+" : n"+words.Show(i+1))
		up = append(up, "node n"+words.Show(i+1)+" : n"+words.Show(i))
	}
	for _, lines := range [][]string{append(down, "node n24"), up} {
		s := compiled(t, strings.Join(lines, "/"))
		price, ok := Price(s, 1)
		l, _ := Content(s, 1)
		n, e := fits.Doc(s, l)
		if price != 47 || !ok || e != api.OK || n.Height() != 24 {
			t.Error(price, ok, e, n.Height())
		}
	}
}

// P19.1, P19.2: as many types, with as many states, as there may be.
func TestGreat(t *testing.T) {
	all := []string{"node n1 group=g : n2"}
	for i := 2; i < 24; i++ {
		all = append(all, "node n"+words.Show(i)+" group=g : n"+words.Show(i+1)+" | (g{20}){9} g{17}")
	}
	s := compiled(t, strings.Join(append(all, "node n24 group=g"), "/"))
	if p, ok := Price(s, 1); p != 47 || !ok || s.Table(2).States() != 199 {
		t.Error(p, ok, s.Table(2).States())
	}
	if w, ok := Gap(s, 2, []int{2}, []int{4}); !ok || !slices.Equal(w, slices.Repeat([]int{24}, 195)) {
		t.Error(w, ok)
	}
	if w, ok := Gap(s, 2, nil, nil); !ok || !slices.Equal(w, []int{3}) {
		t.Error(w, ok)
	}
}

// P19.2: words between.
func TestGap(t *testing.T) {
	// doc 1, title 2, p 3, hr 4, sec 5, dead 6, br 7, cell 8, row 9
	s := compiled(t, "node doc : title (p|hr){2,3} sec?/node title : text*/node p : text+ br/node hr/node sec : title (hr hr|p|row) p?/node dead : dead/node br inline/node cell : br? text? br{2}/node row : cell+|dead hr")
	for _, x := range []struct {
		typ           int
		ahead, behind []int
		want          []int
		ok            bool
	}{
		{1, nil, nil, []int{2, 4, 4}, true},
		{1, []int{2}, nil, []int{4, 4}, true},
		{1, []int{2, 3}, nil, []int{4}, true},
		{1, []int{2, 3}, []int{3}, nil, true},
		{1, []int{2, 3}, []int{5}, []int{4}, true},
		{1, []int{2}, []int{5}, []int{4, 4}, true},
		{1, nil, []int{3}, []int{2, 4}, true},
		{1, nil, []int{4, 4}, []int{2}, true},
		{1, []int{2}, []int{3, 3, 3}, nil, true},
		{1, []int{2, 3}, []int{3, 3, 3}, nil, false},
		{1, []int{2}, []int{2}, nil, false},
		{1, []int{3}, nil, nil, false},
		{1, nil, []int{5, 5}, nil, false},
		{1, []int{2, 3, 3, 5}, nil, nil, true},
		{2, []int{0}, nil, nil, true},
		{2, []int{0, 0}, []int{0}, nil, true},
		{2, []int{7}, nil, nil, false},
		{3, nil, nil, nil, false}, // text has no price
		{3, []int{0}, nil, []int{7}, true},
		{3, []int{0}, []int{7}, nil, true},
		{3, nil, []int{0, 7}, nil, true},
		{3, nil, []int{7}, nil, false},
		{5, []int{2}, nil, []int{4, 4}, true},
		{5, []int{2}, []int{3}, nil, true},
		{5, []int{2, 4}, []int{3}, []int{4}, true},
		{5, nil, []int{9}, []int{2}, true},
		{6, nil, nil, nil, false},
		{6, nil, []int{6}, nil, true}, // what stands ahead and behind needs no price
		{9, []int{6}, nil, []int{4}, true},
		{9, nil, []int{4}, nil, false},
		{8, nil, nil, []int{7, 7}, true},
		{8, []int{7}, []int{0, 7, 7}, nil, true},
		{8, []int{7}, []int{7}, nil, true},
		{8, []int{0}, []int{7}, []int{7}, true},
		{4, nil, nil, nil, false}, {7, nil, nil, nil, false}, {0, nil, nil, nil, false}, {-1, nil, nil, nil, false}, {10, nil, nil, nil, false}, {1 << 32, nil, nil, nil, false}, {1<<32 + 1, nil, nil, nil, false},
		{1, []int{-1}, nil, nil, false}, {1, nil, []int{10}, nil, false}, {1, []int{1<<32 + 2}, nil, nil, false}, {1, []int{2}, []int{1<<63 - 1}, nil, false}, {2, []int{1 << 32}, nil, nil, false},
	} {
		w, ok := Gap(s, x.typ, x.ahead, x.behind)
		if ok != x.ok || !slices.Equal(w, x.want) {
			t.Errorf("Gap(%d, %v, %v) = %v, %v, not %v, %v", x.typ, x.ahead, x.behind, w, ok, x.want, x.ok)
		}
		if w, ok := Gap(nil, x.typ, x.ahead, x.behind); ok || w != nil {
			t.Errorf("of nil: %v, %v", w, ok)
		}
	}
}

// P19.2: of the words that may stand between the best one, wherever they lead.
func TestBestGap(t *testing.T) {
	// a costs 1, b 1, c 2, d 3, e 4
	const types = "/node a/node b/node c :/node d : a/node e : c"
	for _, x := range []struct {
		content       string
		ahead, behind []int
		want          []int
	}{
		{"e a|d b", nil, nil, []int{5, 3}},
		{"e a|a a a b", nil, nil, []int{2, 2, 2, 3}},
		{"e a|a a a c", nil, nil, []int{6, 2}},              // as cheap, shorter
		{"d b|c c", nil, nil, []int{4, 4}},                  // as cheap, as long, lesser
		{"b d a|a e b|a d b c", nil, []int{3}, []int{2, 6}}, // what goes on behind isn't asked
		{"b d a|a e a", nil, []int{2}, []int{3, 5}},
		{"a (b c|d)? e?", []int{2}, nil, nil},
		{"a (b c|d)? e?", []int{2}, []int{4}, []int{3}},
		{"a* b", []int{2, 2}, []int{3}, nil},
		{"(a b)* c", []int{2}, []int{4}, []int{3}},
		{"(a b)* c", []int{2}, []int{2, 3, 4}, []int{3}},
		{"a (d e|a a a|c d) b", []int{2}, []int{3}, []int{2, 2, 2}},
		{"a (d e|e c|c d) b", []int{2}, []int{3}, []int{4, 5}},
	} {
		s := compiled(t, "node doc : "+x.content+types)
		if w, ok := Gap(s, 1, x.ahead, x.behind); !ok || !slices.Equal(w, x.want) {
			t.Errorf("%q: Gap(%v, %v) = %v, %v, not %v", x.content, x.ahead, x.behind, w, ok, x.want)
		}
	}
}

// P19.3: wrappings.
func TestWrap(t *testing.T) {
	// doc 1, p 2, hr 3, list 4, item 5, quote 6, pair 7, loop 8, br 9
	s := compiled(t, "node doc : p hr? (list|quote|loop)*/node p : text*/node hr/node list : item+/node item : p list?/node quote : hr|quote|list/node pair : hr hr/node loop : loop|p/node br inline")
	for _, x := range []struct {
		typ   int
		ahead []int
		kid   int
		want  []int
		ok    bool
	}{
		{1, nil, 2, nil, true},
		{1, nil, 0, []int{2}, true},
		{1, nil, 3, nil, false},
		{1, nil, 5, nil, false},
		{1, []int{2}, 3, nil, true},
		{1, []int{2}, 4, nil, true},
		{1, []int{2}, 5, []int{4}, true},
		{1, []int{2}, 2, []int{8}, true},
		{1, []int{2}, 0, []int{8, 2}, true},
		{1, []int{2, 3}, 3, []int{6}, true},
		{1, []int{2, 3, 6}, 3, []int{6}, true},
		{1, []int{2, 3, 4}, 5, []int{4}, true},
		{1, []int{2}, 7, nil, false}, {1, []int{2}, 9, nil, false}, {1, []int{2}, 1, nil, false},
		{1, []int{3}, 2, nil, false}, {1, []int{3}, 3, nil, false},
		{2, nil, 0, nil, true}, {2, []int{0, 0}, 0, nil, true}, {2, nil, 2, nil, false}, {2, []int{9}, 0, nil, false},
		{4, nil, 5, nil, true}, {4, nil, 2, []int{5}, true}, {4, []int{5}, 0, []int{5, 2}, true}, {4, []int{5, 5}, 4, nil, false},
		{5, []int{2}, 4, nil, true}, {5, []int{2}, 5, []int{4}, true}, {5, []int{2}, 2, []int{4, 5}, true}, {5, []int{2}, 0, []int{4, 5, 2}, true}, {5, []int{2, 4}, 2, nil, false},
		{6, nil, 5, []int{4}, true}, {6, nil, 2, []int{4, 5}, true}, {6, []int{3}, 3, nil, false},
		{7, []int{3}, 3, nil, true}, {7, nil, 3, nil, true}, {7, []int{3, 3}, 3, nil, false},
		{8, nil, 8, nil, true}, {8, nil, 0, []int{2}, true}, {8, nil, 3, nil, false},
		{3, nil, 2, nil, false}, {9, nil, 0, nil, false}, {0, nil, 0, nil, false}, {-1, nil, 2, nil, false}, {10, nil, 2, nil, false}, {1<<32 + 1, nil, 2, nil, false},
		{1, nil, -1, nil, false}, {1, nil, 10, nil, false}, {1, nil, 1<<32 + 2, nil, false}, {1, []int{1 << 32}, 2, nil, false}, {1, []int{-1}, 2, nil, false},
	} {
		w, ok := Wrap(s, x.typ, x.ahead, x.kid)
		if ok != x.ok || !slices.Equal(w, x.want) {
			t.Errorf("Wrap(%d, %v, %d) = %v, %v, not %v, %v", x.typ, x.ahead, x.kid, w, ok, x.want, x.ok)
		}
		if w, ok := Wrap(nil, x.typ, x.ahead, x.kid); ok || w != nil {
			t.Errorf("of nil: %v, %v", w, ok)
		}
	}
}

// P19.3: the first one of a wrap begins, whether or not more must stand behind it; the others stand alone. Of as short ones the first unlike type is the lesser one.
func TestBestWrap(t *testing.T) {
	for _, x := range []struct {
		lines string
		ahead []int
		kid   string
		want  []int
		ok    bool
	}{
		{"node doc : a b/node a : k/node b : k/node k", nil, "k", []int{2}, true},
		{"node doc : a b/node a : k/node b : k/node k", []int{2}, "k", []int{3}, true},
		{"node doc : a b/node a : k/node b : k/node k", []int{2, 3}, "k", nil, false},
		{"node doc : a/node a : b c/node b : k/node c :/node k", nil, "k", nil, false},
		{"node doc : a/node a : b c?/node b : k k/node c :/node k", nil, "k", nil, false},
		{"node doc : a/node a : b c?/node b : k k?/node c :/node k", nil, "k", []int{2, 3}, true},
		{"node doc : a|b/node a : c/node b : d/node c : e/node d : k/node e : k/node k", nil, "k", []int{3, 5}, true},
		{"node doc : b|a/node a : c/node b : c/node c : k/node k", nil, "k", []int{2, 4}, true},
		{"node doc : a|b/node a : d/node b : c/node c : k/node d : k/node k", nil, "k", []int{2, 5}, true},
		{"node doc : b|a/node a : k text*/node b : k/node k inline", nil, "k", []int{2}, true},
		{"node doc : a|k|b/node a : k/node b : k/node k", nil, "k", nil, true},
		{"node doc : doc|a/node a : k/node k", nil, "k", []int{2}, true},
		{"node doc : a doc/node a : k/node k", []int{2}, "k", nil, false},
		{"node doc : a doc?/node a : k/node k", []int{2}, "k", []int{1, 2}, true},
		{"node doc : a doc|b/node a : text*/node b : k/node k", []int{2}, "k", []int{1, 3}, true},
		{"node doc : a doc?|b/node a : k/node b : text*/node k", []int{2}, "k", []int{1, 2}, true},
		{"node doc : text*/node k", nil, "k", nil, false},
	} {
		s := compiled(t, x.lines)
		kid, _ := s.Find(x.kid)
		w, ok := Wrap(s, 1, x.ahead, kid)
		if ok != x.ok || !slices.Equal(w, x.want) {
			t.Errorf("%q: Wrap(%v) = %v, %v, not %v, %v", x.lines, x.ahead, w, ok, x.want, x.ok)
		}
	}
}

// P19.3: a wrap may have as many types as there are.
func TestLongWrap(t *testing.T) {
	lines := []string{"node n1 : n2?"}
	for i := 2; i < 24; i++ {
		lines = append(lines, "node n"+words.Show(i)+" : n"+words.Show(i+1)+"?")
	}
	s := compiled(t, strings.Join(append(lines, "node n24 : text*"), "/"))
	w, ok := Wrap(s, 1, nil, 0)
	if !ok || len(w) != 23 || w[0] != 2 || w[22] != 24 || !slices.IsSorted(w) {
		t.Error(w, ok)
	}
	// Through the top one, too.
	lines[0], lines[22] = "node n1 : n2 n2?|n24", "node n23 : n1"
	s = compiled(t, strings.Join(append(lines, "node n24 : text*"), "/"))
	w, ok = Wrap(s, 1, []int{2}, 0)
	if !ok || len(w) != 24 || w[0] != 2 || w[21] != 23 || w[22] != 1 || w[23] != 24 {
		t.Error(w, ok)
	}
	if w, ok = Wrap(s, 1, nil, 0); !ok || !slices.Equal(w, []int{24}) {
		t.Error(w, ok)
	}
}

// P3, P6: what is handed in stays, what is answered is new, and the same each time.
func TestAgain(t *testing.T) {
	s := compiled(t, "node doc : p hr? (list|hr)*/node p : text*/node hr/node list : item+/node item : p list?")
	room := []int{2, 3, 4, 7, 7}
	for range 3 {
		l, ok := Content(s, 4)
		if w, _ := token.Show(s, l); !ok || w != "<item <p > >" {
			t.Fatal(w)
		}
		_ = append(l, api.Token{Kind: 9})
		clear(l)
		whole, _ := Node(s, 4)
		clear(whole)
		gap, ok := Gap(s, 1, room[:0], room[1:3])
		if !ok || !slices.Equal(gap, []int{2}) {
			t.Fatal(gap, ok)
		}
		clear(gap)
		wrap, ok := Wrap(s, 1, room[:2], 5)
		if !ok || !slices.Equal(wrap, []int{4}) {
			t.Fatal(wrap, ok)
		}
		_ = append(wrap, 9)
		clear(wrap)
		if p, ok := Price(s, 4); p != 6 || !ok || !slices.Equal(room, []int{2, 3, 4, 7, 7}) {
			t.Fatal(p, ok, room)
		}
	}
}
