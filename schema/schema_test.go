package schema

import (
	"math/rand/v2"
	"slices"
	"strconv"
	"strings"
	"testing"

	"stet/api"
	"stet/bag"
	"stet/decl"
	"stet/dfa"
	"stet/expr"
	"stet/nfa"
)

// lines is a text of these lines.
func lines(l ...string) string { return strings.Join(l, "\n") + "\n" }

// made is a text's schema.
func made(t testing.TB, l ...string) *Schema {
	t.Helper()
	s, e := New(lines(l...))
	if e != api.OK || s == nil {
		t.Fatalf("%q: %v", l, e)
	}
	return s
}

// refused tells whether a text's schema may not be, for this reason.
func refused(t testing.TB, want api.Errno, l ...string) {
	t.Helper()
	if s, e := New(lines(l...)); s != nil || e != want {
		t.Errorf("%.300q: %v, not %v", l, e, want)
	}
}

// rich is a schema's lines in which each option stands.
func rich() []string {
	return []string{
		"mark b",
		"node doc group=any : block+",
		"mark i val=9 bars=b,i",
		"node p group=block group=any marks=* : inline*",
		"mark code bars=*",
		"node h group=block attr=3 marks=code,b pick : text*",
		"node quote group=block attr=999 pick : block{2,} | hr",
		"node hr group=block pick",
		"mark text val=999 bars=code",
		"node br group=inline inline marks=i",
		"node t group=inline attr=9 inline group=block2 pick",
		"node none :",
	}
}

// P11.1, P11.2: the example.
func TestExample(t *testing.T) {
	s := made(t, "node doc : p+", "node p : text*")
	if !s.Fits(1, 2, 2) || !s.Fits(2, 0) || s.Fits(1) || !s.Fits(1, 2) || s.Fits(1, 0) || s.Fits(1, 2, 0) || !s.Fits(2) || s.Fits(2, 2) {
		t.Error("fits")
	}
}

// typed is what a schema tells of a type.
type typed struct {
	name                       string
	leaf, inline, picks, texts bool
	attr                       int
}

// of is what a schema tells of a type.
func of(s *Schema, t int) typed {
	return typed{s.Name(t), s.Leaf(t), s.Inline(t), s.Picks(t), s.Texts(t), s.MaxAttr(t)}
}

// P11.2: what is told of each type, of text, and of what there is not.
func TestTypes(t *testing.T) {
	s := made(t, rich()...)
	want := []typed{
		{name: "text", leaf: true, inline: true},
		{name: "doc"},
		{name: "p", texts: true},
		{name: "h", picks: true, texts: true, attr: 3},
		{name: "quote", picks: true, attr: 999},
		{name: "hr", leaf: true, picks: true},
		{name: "br", leaf: true, inline: true},
		{name: "t", leaf: true, inline: true, picks: true, attr: 9},
		{name: "none"},
	}
	if s.Types() != len(want)-1 {
		t.Error(s.Types())
	}
	for i, w := range want {
		if of(s, i) != w {
			t.Errorf("%d is %+v", i, of(s, i))
		}
		if i2, ok := s.Find(w.name); !ok || i2 != i {
			t.Errorf("%s is %d, %v", w.name, i2, ok)
		}
		if (s.Table(i) == nil) != w.leaf || s.Table(i) != s.Table(i) {
			t.Errorf("the table of %d", i)
		}
	}
	for _, i := range []int{-1 << 63, -1, len(want), 24, 25, 255, 256, 1 << 32, 1<<32 + 1, 1<<63 - 1} {
		if of(s, i) != (typed{}) || s.Table(i) != nil || s.Fits(i) || s.Fits(i, 0) || s.Allows(i, 0) {
			t.Errorf("something is told of %d", i)
		}
	}
	for _, name := range []string{"", "block", "any", "b", "code", "Doc", "do", "docs", " doc", "*"} {
		if i, ok := s.Find(name); i != 0 || ok {
			t.Errorf("%q is %d, %v", name, i, ok)
		}
	}
}

// P11.2: the types of a group, rising.
func TestGroup(t *testing.T) {
	s := made(t, rich()...)
	for name, want := range map[string][]int{"any": {1, 2}, "block": {2, 3, 4, 5}, "inline": {6, 7}, "block2": {7}, "": nil, "p": nil, "text": nil, "blocks": nil, "b": nil} {
		if l := s.Group(name); !slices.Equal(l, want) || want == nil && l != nil {
			t.Errorf("%q is %v", name, l)
		}
	}
	l := s.Group("block")
	_ = append(l[:1], 9, 9)
	l[0] = 9
	if l = s.Group("block"); !slices.Equal(l, []int{2, 3, 4, 5}) || !s.Fits(1, 2, 5) {
		t.Error(l)
	}
}

// P11.2: what may stand in a type, by its table too.
func TestFits(t *testing.T) {
	s := made(t, rich()...)
	for _, x := range []struct {
		t    int
		kids []int
		want bool
	}{
		{1, nil, false}, {1, []int{2}, true}, {1, []int{3, 2, 5, 4}, true}, {1, []int{2, 6}, false}, {1, []int{1}, false}, {1, []int{0}, false}, {1, []int{2, 8}, false},
		{2, nil, true}, {2, []int{6, 7, 6}, true}, {2, []int{0}, false}, {2, []int{2}, false},
		{3, nil, true}, {3, []int{0}, true}, {3, []int{6}, false}, {3, []int{0, 6}, false},
		{4, nil, false}, {4, []int{5}, true}, {4, []int{2}, false}, {4, []int{2, 2}, true}, {4, []int{5, 5}, true}, {4, []int{4, 3, 2, 5, 5}, true},
		{8, nil, true}, {8, []int{0}, false}, {8, []int{8}, false}, {8, []int{1}, false},
		{0, nil, true}, {0, []int{0}, false}, {5, nil, true}, {5, []int{5}, false}, {6, nil, true}, {6, []int{0}, false}, {7, nil, true}, {7, []int{-1}, false},
		{1, []int{-1}, false}, {1, []int{9}, false}, {1, []int{31}, false}, {1, []int{32}, false}, {1, []int{2, 1<<32 + 2}, false}, {1, []int{1<<63 - 1}, false}, {1, []int{-1 << 63}, false}, {2, []int{6, 1 << 32}, false},
	} {
		if s.Fits(x.t, x.kids...) != x.want {
			t.Errorf("%v in %d", x.kids, x.t)
		}
		end, ok := s.Table(x.t).Run(0, x.kids...)
		if !s.Leaf(x.t) && (ok && s.Table(x.t).Accepts(end)) != x.want {
			t.Errorf("%v by the table of %d", x.kids, x.t)
		}
	}
	// What stands where is told by places, not only by which types there are.
	s = made(t, "node doc : a text?|(b b)*", "node a inline", "node b inline")
	for w, want := range map[string]bool{"": true, "2": true, "20": true, "02": false, "0": false, "22": false, "3": false, "33": true, "333": false, "3333": true, "2333": false, "33330": false} {
		var kids []int
		for _, c := range w {
			kids = append(kids, int(c-'0'))
		}
		if s.Fits(1, kids...) != want {
			t.Errorf("%s", w)
		}
	}
}

// P11.3: what is told of each mark, and of what there is not.
func TestMarks(t *testing.T) {
	s := made(t, rich()...)
	names, values := []string{"b", "i", "code", "text"}, []int{0, 9, 0, 999}
	bars := []string{"!...", "!!..", "!!!!", "..!!"}
	allows := []string{"....", "....", "!!!!", "!.!.", "....", "....", ".!..", "....", "...."}
	if s.Marks() != len(names) {
		t.Error(s.Marks())
	}
	told := func(is bool) byte { return map[bool]byte{true: '!', false: '.'}[is] }
	for m, name := range names {
		if i, ok := s.FindMark(name); s.MarkName(m) != name || s.MaxValue(m) != values[m] || i != m || !ok {
			t.Errorf("%d: %q, %d, %d, %v", m, s.MarkName(m), s.MaxValue(m), i, ok)
		}
		for o := range names {
			if told(s.Bars(m, o)) != bars[m][o] {
				t.Errorf("does %d bar %d?", m, o)
			}
		}
		for i := range allows {
			if told(s.Allows(i, m)) != allows[i][m] {
				t.Errorf("does %d allow %d?", i, m)
			}
		}
	}
	for _, m := range []int{-1 << 63, -1, 4, 7, 8, 255, 256, 1 << 32, 1<<32 + 2, 1<<63 - 1} {
		if s.MarkName(m) != "" || s.MaxValue(m) != 0 || s.Bars(m, m) || s.Bars(m, 0) || s.Bars(2, m) || s.Allows(2, m) || s.Allows(m, m) {
			t.Errorf("something is told of the mark %d", m)
		}
	}
	for _, name := range []string{"", "p", "doc", "block", "B", "cod", "codes", "*"} {
		if m, ok := s.FindMark(name); m != 0 || ok {
			t.Errorf("%q is %d, %v", name, m, ok)
		}
	}
}

// P11.2, P11.3: of nil.
func TestNil(t *testing.T) {
	var s *Schema
	for _, i := range []int{-1 << 63, -1, 0, 1, 2, 1<<63 - 1} {
		if of(s, i) != (typed{}) || s.Table(i) != nil || s.Fits(i) || s.Fits(i, 0) || s.MarkName(i) != "" || s.MaxValue(i) != 0 || s.Bars(i, i) || s.Allows(i, i) {
			t.Errorf("nil tells something of %d", i)
		}
	}
	for _, name := range []string{"", "text", "doc"} {
		n, ok := s.Find(name)
		m, is := s.FindMark(name)
		if n != 0 || ok || m != 0 || is || s.Group(name) != nil {
			t.Errorf("nil tells something of %q", name)
		}
	}
	if s.Types() != 0 || s.Marks() != 0 {
		t.Error(s.Types(), s.Marks())
	}
}

// P11.1: each error by itself.
func TestErrors(t *testing.T) {
	if s, e := New("node doc :"); s != nil || e != api.ErrForm {
		t.Error(e)
	}
	if s, e := New(strings.Repeat("\n", api.MaxText+1)); s != nil || e != api.ErrLong {
		t.Error(e)
	}
	if s, e := New(""); s != nil || e != api.ErrEmpty {
		t.Error(e)
	}
	refused(t, api.ErrName, "node doc :", "node doc :")
	refused(t, api.ErrName, "node doc :", "node text :")
	refused(t, api.ErrForm, "node doc : |")
	for _, l := range [][]string{{""}, {"mark b"}, {"mark b bars=c"}, {"", ""}} {
		refused(t, api.ErrEmpty, l...)
	}
	for _, l := range [][]string{
		{"node doc group=doc :"}, {"node doc group=text :"}, {"node doc : a", "node a group=doc"}, {"node doc group=a : a", "node a"}, {"node doc : a", "node a group=b group=c group=d group=a"}, {"node doc : a", "node a group=b group=text"}, {"node doc : a", "node a", "node b", "node c group=b"},
	} {
		refused(t, api.ErrName, l...)
	}
	for _, l := range [][]string{
		{"node doc"}, {"node doc inline"}, {"node doc inline :"}, {"node doc : a", "node a inline :"}, {"node doc :", "node a", "node b inline", "node c inline : a"},
		{"node doc : a text", "node a"}, {"node doc : text | a", "node a"}, {"node doc : a? text*", "node a :"}, {"node doc : a b", "node a", "node b inline"}, {"node doc : g", "node a group=g", "node b group=g inline"}, {"node doc : g text", "node a group=g", "node b group=h inline"}, {"node doc : g h", "node a group=g", "node b group=h inline"}, {"node doc : g+", "node a group=g : text", "node b group=g inline"}, {"node doc :", "node a : doc text"},
	} {
		refused(t, api.ErrFit, l...)
	}
	for _, l := range [][]string{
		{"node doc : a"}, {"node doc : b", "mark b"}, {"node doc : a* doc", "node b group=aa"}, {"node doc :", "node a : doc a b"}, {"node doc marks=b :"}, {"node doc marks=b,c,d :", "mark b", "mark d"}, {"node doc marks=doc :"}, {"node doc :", "node a marks=b", "mark c"}, {"node doc :", "mark b bars=c"}, {"node doc :", "mark b bars=doc"}, {"node doc :", "mark b bars=b,a", "mark c bars=b"},
	} {
		refused(t, api.ErrNone, l...)
	}
	for _, l := range [][]string{
		{"node doc :"}, {"node doc : doc"}, {"node doc : text"}, {"node doc : text br", "node br inline"}, {"node doc group=a : a"}, {"node doc group=a : doc | a"}, {"mark doc bars=a", "mark a", "node doc marks=a :"}, {"mark text", "node doc marks=text :"}, {"mark a", "node doc group=a marks=a : a"}, {"node doc : g", "node a group=g inline", "node b group=g inline"}, {"node doc :", "node a group=g inline", "node b group=g"}, {"node doc : b", "node a inline", "node b : text a"}, {"node doc marks=* :"}, {"node doc :", "mark a bars=*"},
	} {
		made(t, l...)
	}
}

// P11.1: of several errors the one that is named first, wherever it stands.
func TestOrder(t *testing.T) {
	full := "(a{20}){13}"
	for _, x := range []struct {
		want api.Errno
		l    []string
	}{
		{api.ErrForm, []string{"node doc group=doc inline : x", "node"}},
		{api.ErrLong, append(slices.Repeat([]string{""}, 24), append(numbered(25), "node doc group=n1")...)},
		{api.ErrName, []string{"node doc", "node doc"}},
		{api.ErrEmpty, []string{"mark b bars=x"}},
		{api.ErrName, []string{"node doc inline marks=x : x text", "node a group=text"}},
		{api.ErrName, []string{"mark b bars=x", "node doc", "node a group=doc"}},
		{api.ErrFit, []string{"mark b bars=x", "node doc marks=x : x", "node a inline : y"}},
		{api.ErrFit, []string{"node doc marks=x"}},
		{api.ErrFit, []string{"node doc inline marks=x :"}},
		{api.ErrNone, []string{"node doc : a text", "node a marks=x"}},
		{api.ErrNone, []string{"node doc : a text", "node a", "mark b bars=x"}},
		{api.ErrNone, []string{"node doc : " + full, "node a", "mark b bars=x"}},
		{api.ErrNone, []string{"node doc : a text x", "node a"}},
		{api.ErrNone, []string{"node doc : " + full + " x", "node a"}},
		{api.ErrFit, []string{"node doc : " + full + " text", "node a"}},
		{api.ErrFit, []string{"node doc : a text", "node a : x"}},
		{api.ErrFit, []string{"node doc : a text", "node a : " + full}},
		{api.ErrFull, []string{"node doc : " + full, "node a : x"}},
		{api.ErrFull, []string{"node doc : " + full, "node a : a text"}},
		{api.ErrNone, []string{"node doc : x", "node a : a text", "node b : " + full}},
	} {
		refused(t, x.want, x.l...)
	}
}

// numbered is the lines of so many leaves.
func numbered(n int) []string {
	var l []string
	for i := range n {
		l = append(l, "node n"+strconv.Itoa(i))
	}
	return l
}

// P11.1: nets and tables as great as they may be, and greater ones.
func TestFull(t *testing.T) {
	for e, want := range map[string]api.Errno{
		"(a{20}){9} a{19}":               api.OK,      // 199 places, 200 states
		"(a{20}){10}":                    api.ErrFull, // 200 places, 201 states
		"((a|a|a|a){16}){4}":             api.OK,      // 256 places, 65 states
		"((a|a|a|a){16}){4} a?":          api.ErrFull, // 257 places
		"(((a{20}){20}){20}){20}":        api.ErrFull,
		"(a|b)* a (a|b){6}":              api.OK, // 2^7 states and the begin
		"(a|b)* a (a|b){7}":              api.ErrFull,
		"(a|b)* a (a|b){20} (a|b){20}":   api.ErrFull,
		"((a|b)* a (a|b){6})? (a|b|doc)": api.ErrFull,
	} {
		for _, l := range [][]string{{"node doc : " + e, "node a", "node b"}, {"node doc : a", "node a : b", "node b :", "node c : " + e}} {
			s, f := New(lines(l...))
			if f != want || (s == nil) != (f != api.OK) {
				t.Errorf("%q: %v", e, f)
			}
		}
	}
	l := append([]string{"node doc : n22 | g"}, numbered(23)...)
	l[1] += " group=g group=h"
	l[23] += " : n0{20} n21"
	var marks []string
	for i := range 8 {
		marks = append(marks, "mark m"+strconv.Itoa(i)+" bars=m7")
	}
	s := made(t, append(marks, l...)...)
	if s.Types() != 24 || s.Marks() != 8 || s.Name(24) != "n22" || !s.Fits(1, 24) || !s.Fits(1, 2) || s.Fits(1, 3) || !s.Fits(24, append(slices.Repeat([]int{2}, 20), 23)...) || s.Fits(24, 23) || !s.Bars(0, 7) || s.Bars(7, 0) || !s.Bars(7, 7) {
		t.Error("the greatest schema")
	}
}

// ends are the places in a word at which what fits a part may end, if it begins at from.
func ends(e expr.Expr, part int, means func(string) bag.Bag, word []int, from map[int]bool) map[int]bool {
	to := map[int]bool{}
	add := func(l map[int]bool) {
		for i := range l {
			to[i] = true
		}
	}
	p := e[part]
	switch p.Kind {
	case expr.Name:
		for i := range from {
			if i < len(word) && means(p.Name).Has(word[i]) {
				to[i+1] = true
			}
		}
	case expr.Row:
		to = from
		for _, kid := range p.Kids {
			to = ends(e, kid, means, word, to)
		}
	case expr.Choice:
		for _, kid := range p.Kids {
			add(ends(e, kid, means, word, from))
		}
	case expr.Times:
		// More often than the word is long, beyond Low, comes to no other place.
		high := p.High
		if high < 0 {
			high = p.Low + len(word)
		}
		for i := 0; i <= high; i++ {
			if i >= p.Low {
				add(from)
			}
			from = ends(e, p.Kids[0], means, word, from)
		}
	}
	return to
}

// meant is what a name means, by what was said.
func meant(d decl.Decl) func(string) bag.Bag {
	all := map[string]bag.Bag{"text": bag.Of(0)}
	for i, n := range d.Nodes {
		all[n.Name] = bag.Of(i + 1)
		for _, g := range n.Groups {
			all[g] = all[g].With(i + 1)
		}
	}
	return func(name string) bag.Bag { return all[name] }
}

// judged is the error that New should have, and all tables, by rules of their own.
func judged(text string) (decl.Decl, []*dfa.Table, api.Errno) {
	d, _, e := decl.Parse(text)
	if e != api.OK {
		return d, nil, e
	}
	if len(d.Nodes) == 0 {
		return d, nil, api.ErrEmpty
	}
	names, marks, inline := map[string]bool{"text": true}, map[string]bool{}, bag.Of(0)
	for i, n := range d.Nodes {
		names[n.Name] = true
		if n.Inline {
			inline = inline.With(i + 1)
		}
	}
	for _, m := range d.Marks {
		marks[m.Name] = true
	}
	var found []api.Errno
	blame := func(bad bool, e api.Errno) {
		if bad {
			found = append(found, e)
		}
	}
	for _, n := range d.Nodes {
		for _, g := range n.Groups {
			blame(names[g], api.ErrName)
		}
	}
	blame(d.Nodes[0].Leaf || d.Nodes[0].Inline, api.ErrFit)
	for _, n := range d.Nodes {
		blame(n.Inline && !n.Leaf, api.ErrFit)
	}
	for _, m := range d.Marks {
		for _, name := range m.Bars {
			blame(!marks[name], api.ErrNone)
		}
	}
	for _, n := range d.Nodes {
		for _, name := range n.Marks {
			blame(!marks[name], api.ErrNone)
		}
	}
	tables := []*dfa.Table{nil}
	means := meant(d)
	for _, n := range d.Nodes {
		var within bag.Bag
		parts, _, _ := expr.Parse(n.Expr)
		for _, p := range parts {
			blame(p.Kind == expr.Name && means(p.Name).Len() == 0, api.ErrNone)
			if p.Kind == expr.Name {
				within = within.Or(means(p.Name))
			}
		}
		blame(within.And(inline).Len() > 0 && within.Not(inline).Len() > 0, api.ErrFit)
		net, e := nfa.New(parts, means)
		blame(e == api.ErrFull, api.ErrFull)
		table, e := dfa.New(net)
		blame(e == api.ErrFull, api.ErrFull)
		if n.Leaf {
			table = nil
		}
		tables = append(tables, table)
	}
	return d, tables, append(found, api.OK)[0]
}

// pick is one of a list, by chance.
func pick[T any](chance *rand.Rand, l ...T) T { return l[chance.IntN(len(l))] }

// exprByChance is an expression's text by chance, of these names.
func exprByChance(chance *rand.Rand, deep int, names ...string) string {
	kind := chance.IntN(4)
	if deep == 0 || kind == 0 {
		return pick(chance, names...)
	}
	if kind == 1 {
		return "(" + exprByChance(chance, deep-1, names...) + ")" + pick(chance, "*", "+", "?", "{2}", "{2,}", "{0,2}", "{1,3}", "{0,}")
	}
	var l []string
	for range 2 + chance.IntN(2) {
		l = append(l, exprByChance(chance, deep-1, names...))
	}
	return "(" + strings.Join(l, pick(chance, " ", "|", " ")) + ")"
}

// listByChance is an option of a list of marks, by chance.
func listByChance(chance *rand.Rand, head string) string {
	names := []string{"m", "n", "o"}
	if chance.IntN(25) == 0 {
		names = []string{"m", "q", "n"}
	}
	return pick(chance, "", "", head+"*", head+names[0], head+strings.Join(names[:2], ","), head+names[2]+","+names[1])
}

// byChance is a schema's text by chance, that mostly may be.
func byChance(chance *rand.Rand) string {
	l := []string{"mark m" + listByChance(chance, " bars="), "mark n val=3" + listByChance(chance, " bars="), "mark o" + listByChance(chance, " bars=")}
	blocks, inlines := []string{"b", "c", "block", "d", "block"}, []string{"text", "x", "y", "inline"}
	for i, name := range []string{"d", "b", "c", "x", "y"} {
		line := "node " + name + listByChance(chance, " marks=") + pick(chance, "", " pick") + pick(chance, "", " attr=7")
		names := pick(chance, blocks, inlines)
		if chance.IntN(60) == 0 {
			names = append(names[:len(names):len(names)], pick(chance, "z", "text", "block", "m", "x"))
		}
		leaf := i > 2 || i > 0 && chance.IntN(4) == 0
		if chance.IntN(60) == 0 {
			leaf = !leaf
		}
		if i > 2 {
			line += pick(chance, " inline", " inline group=inline", " group=inline inline group=other")
		} else if i > 0 || chance.IntN(80) == 0 {
			line += pick(chance, " group=block", " group=block group=other2")
		}
		if chance.IntN(80) == 0 {
			line += pick(chance, " group=text", " group=b", " inline")
		}
		if !leaf {
			line += " : " + exprByChance(chance, 1+chance.IntN(3), names...)
		}
		l = append(l, line)
	}
	if chance.IntN(3) == 0 {
		chance.Shuffle(len(l), func(i, k int) { l[i], l[k] = l[k], l[i] })
	}
	// So that each group has a type.
	return lines(append(l, "node last group=block :", "node least group=inline inline")...)
}

// same tells whether two tables are numbered alike, too.
func same(a, b *dfa.Table) bool {
	if a.States() != b.States() {
		return false
	}
	for state := range a.States() {
		for symbol := range 32 {
			m, is := a.Next(state, symbol)
			n, ok := b.Next(state, symbol)
			if m != n || is != ok || a.Accepts(state) != b.Accepts(state) {
				return false
			}
		}
	}
	return true
}

// checkTold holds what a schema tells against what was said.
func checkTold(t *testing.T, s *Schema, d decl.Decl, tables []*dfa.Table) {
	t.Helper()
	has := func(all bool, names []string, m int) bool {
		return all || slices.Contains(names, d.Marks[m].Name)
	}
	for i, n := range d.Nodes {
		texts := false
		parts, _, _ := expr.Parse(n.Expr)
		for _, name := range expr.Names(parts) {
			for k := range meant(d)(name).All() {
				texts = texts || k == 0 || d.Nodes[k-1].Inline
			}
		}
		if of(s, i+1) != (typed{n.Name, n.Leaf, n.Inline, n.Pick, texts, n.Attr}) || !same(s.Table(i+1), tables[i+1]) || (s.Table(i+1) == nil) != n.Leaf {
			t.Fatalf("%+v: %+v", n, of(s, i+1))
		}
		for m := range d.Marks {
			if s.Allows(i+1, m) != has(n.All, n.Marks, m) {
				t.Fatalf("%+v: Allows(%d)", n, m)
			}
		}
	}
	for a, m := range d.Marks {
		for b := range d.Marks {
			if s.Bars(a, b) != (a == b || has(m.All, m.Bars, b)) {
				t.Fatalf("%+v: Bars(%d)", m, b)
			}
		}
	}
	if s.Types() != len(d.Nodes) || s.Marks() != len(d.Marks) {
		t.Fatal(s.Types(), s.Marks())
	}
}

// checkFits holds what may stand in types against their expressions.
func checkFits(t *testing.T, chance *rand.Rand, s *Schema, d decl.Decl) int {
	t.Helper()
	fit := 0
	for i, n := range d.Nodes {
		parts, _, _ := expr.Parse(n.Expr)
		for range 30 {
			var kids []int
			for at := 0; chance.IntN(6) > 0; {
				// Mostly what may be next, so that some words fit.
				kid := chance.IntN(s.Types() + 3)
				if next := s.Table(i + 1).Symbols(at).List(); len(next) > 0 && chance.IntN(12) > 0 {
					kid = pick(chance, next...)
				}
				at, _ = s.Table(i+1).Next(at, kid)
				kids = append(kids, kid)
			}
			want := len(kids) == 0
			if len(parts) > 0 {
				want = ends(parts, len(parts)-1, meant(d), kids, map[int]bool{0: true})[len(kids)]
			}
			if s.Fits(i+1, kids...) != want {
				t.Fatalf("%v in %q: %v", kids, n.Expr, !want)
			}
			if want && len(kids) > 0 {
				fit++
			}
		}
	}
	return fit
}

// P11.1 to P11.4: schemas by chance.
func TestByChance(t *testing.T) {
	chance := rand.New(rand.NewPCG(11, 4))
	counts := map[api.Errno]int{}
	fit := 0
	for range 3000 {
		text := byChance(chance)
		d, tables, want := judged(text)
		s, e := New(text)
		if e != want || (s == nil) != (e != api.OK) {
			t.Fatalf("%s%v, not %v", text, e, want)
		}
		counts[e]++
		if e == api.OK {
			checkTold(t, s, d, tables)
			fit += checkFits(t, chance, s, d)
		}
	}
	if counts[api.OK] < 500 || counts[api.ErrName] < 50 || counts[api.ErrFit] < 50 || counts[api.ErrNone] < 50 || fit < 10000 {
		t.Error(counts, fit)
	}
}

// P11.1: lines that are taken away, put elsewhere, or changed by a byte.
func TestChanged(t *testing.T) {
	chance := rand.New(rand.NewPCG(11, 1))
	counts := map[api.Errno]int{}
	for range 20000 {
		l := rich()
		i, k := chance.IntN(len(l)), chance.IntN(len(l))
		switch chance.IntN(4) {
		case 0:
			l = slices.Delete(l, i, i+1)
		case 1:
			l[i], l[k] = l[k], l[i]
		case 2:
			words := strings.Split(l[i], " ")
			at := chance.IntN(len(words))
			l[i] = strings.Join(slices.Delete(words, at, at+1), " ")
		case 3:
			at := chance.IntN(len(l[i]))
			l[i] = l[i][:at] + string(rune(32+chance.IntN(95))) + l[i][at+chance.IntN(2):]
		}
		text := lines(l...)
		_, _, want := judged(text)
		if s, e := New(text); e != want || (s == nil) != (e != api.OK) {
			t.Fatalf("%s%v, not %v", text, e, want)
		}
		counts[want]++
	}
	if len(counts) < 5 {
		t.Error(counts)
	}
}
