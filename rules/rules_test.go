// Package rules holds the tests of the rules that hold in all layers.
package rules

import (
	"slices"
	"strings"
	"testing"

	"stet/api"
	"stet/bag"
	"stet/cut"
	"stet/decl"
	"stet/dfa"
	"stet/expr"
	"stet/fits"
	"stet/least"
	"stet/lex"
	"stet/marks"
	"stet/near"
	"stet/nfa"
	"stet/pin"
	"stet/queue"
	"stet/route"
	"stet/scan"
	"stet/schema"
	"stet/spot"
	"stet/token"
	"stet/tree"
	"stet/utf"
	"stet/words"
)

// texts are arguments that nobody would mean.
func texts() []string {
	l := []string{"", " ", "\n", "\\", "\\x", "\x00", "\x7f", "\x80", "\xff\xfe", "-", "a", "1", "{", "{1,", "(|)", strings.Repeat("\\", 70001), strings.Repeat("9", 70000), strings.Repeat("(", 70000), strings.Repeat("{", 200)}
	for c := range 256 {
		l = append(l, string([]byte{'\\', 'x', byte(c)}), string([]byte{byte(c), byte(c)}))
	}
	return l
}

// numbers are numbers of any size.
func numbers() []int {
	return []int{-1 << 63, -1<<63 + 1, -1 << 31, -2, -1, 0, 1, 2, 1 << 31, 1<<63 - 2, 1<<63 - 1}
}

// exprs are lists of parts that nobody would mean.
func exprs() []expr.Expr {
	l := []expr.Expr{nil, {}, {{}}, {{Kind: expr.Name}}, {{Kind: expr.Name, Name: "a"}, {Kind: expr.Row}, {Kind: expr.Choice}, {Kind: expr.Times}}}
	for _, n := range numbers() {
		for kind := range 6 {
			l = append(l, expr.Expr{{Kind: kind, Low: n, High: n, Name: "a"}}, expr.Expr{{Kind: kind, Kids: []int{n}}}, expr.Expr{{Kind: expr.Name, Name: "a"}, {Kind: kind, Low: n, Kids: []int{0, n}}})
		}
		l = append(l, expr.Expr{{Kind: n, Kids: []int{0}}}, expr.Expr{{Kind: expr.Name, Name: "a"}, {Kind: expr.Times, Low: n, High: n, Kids: []int{0}}})
	}
	return l
}

// declared is what lines say of a node and a mark, all told by texts and numbers that nobody would mean.
func declared(s string, n int) decl.Decl {
	return decl.Decl{
		Nodes: []decl.Node{{Name: s, Groups: []string{s}, Attr: n, Marks: []string{s, s}, Expr: s}, {Name: "a", Leaf: true, Attr: n, Expr: s}},
		Marks: []decl.Mark{{Name: s, Value: n, All: true, Bars: []string{s}}, {Name: "a", Value: n, Bars: []string{s}}},
	}
}

// P1, P2: every call ends, none panics, and with an error all else is zero.
func TestEveryCallEnds(t *testing.T) {
	for _, s := range texts() {
		b := []byte(s)
		for _, at := range numbers() {
			if r, n, e := utf.Next(b, at); e != api.OK && (r != 0 || n != 0) {
				t.Errorf("Next(%q, %d) = %d, %d, %v", s, at, r, n, e)
			}
		}
		if l, at, e := utf.Decode(b); e != api.OK && l != nil || e == api.OK && at != 0 {
			t.Errorf("Decode(%q) = %v, %d, %v", s, l, at, e)
		}
		if n, ok := utf.Count(b); !ok && n != 0 {
			t.Errorf("Count(%q) = %d", s, n)
		}
		if l, e := words.Split(s); e != api.OK && l != nil {
			t.Errorf("Split(%q) = %q, %v", s, l, e)
		}
		if l, n, e := words.Lines(s); e != api.OK && l != nil || e != api.ErrForm && n != 0 {
			t.Errorf("Lines(%q) = %q, %d, %v", s, l, n, e)
		}
		if n, ok := words.Num(s); !ok && n != 0 {
			t.Errorf("Num(%q) = %d", s, n)
		}
		if l, e := words.Bare(s); e != api.OK && l != nil {
			t.Errorf("Bare(%q) = %q, %v", s, l, e)
		}
		if l, at, e := lex.Lex(s); e != api.OK && l != nil || e == api.OK && at != 0 || at < 0 || at > len(s) {
			t.Errorf("Lex(%q) = %v, %d, %v", s, l, at, e)
		}
		if l, at, e := expr.Parse(s); e != api.OK && l != nil || e == api.OK && (at != 0 || !expr.Right(l)) || at < 0 || at > len(s) {
			t.Errorf("Parse(%q) = %v, %d, %v", s, l, at, e)
		}
		for _, text := range []string{s, s + "\n", "node " + s + "\n", "mark a " + s + "\n", "node a group=" + s + "\n", "node a marks=" + s + "\n", "node a : " + s + "\n"} {
			if d, at, e := decl.Parse(text); e != api.OK && !decl.Same(d, decl.Decl{}) || (at != 0) != (e == api.ErrForm || e == api.ErrName) {
				t.Errorf("Parse(%.60q) = %+v, %d, %v", text, d, at, e)
			}
		}
		if d := declared(s, len(s)); decl.Show(d) != "" || !decl.Same(d, d) {
			t.Errorf("%+v is shown as %q", d, decl.Show(d))
		}
		lex.Show([]lex.Sign{{Kind: lex.Name, Name: s}, {Kind: len(s), Name: s}})
		words.Hide(b)
		words.Join(s, s)
	}
	for _, e := range exprs() {
		if right := expr.Right(e); !right && expr.Show(e) != "" || !expr.Same(e, e) {
			t.Errorf("%v is shown as %q", e, expr.Show(e))
		}
		expr.Names(e)
		expr.Same(e, nil)
		if n, f := nfa.New(e, letter); (n == nil) != (f != api.OK) || (f == api.OK) != expr.Right(e) {
			t.Errorf("the net of %v: %v, %v", e, n, f)
		}
	}
	var q queue.Queue[int]
	for _, n := range numbers() {
		if b := bag.Of(n, n).With(n); b.Has(n) != (n >= 0 && n < 256) || b.Len() > 1 {
			t.Errorf("a bag of %d is %v", n, b.List())
		}
		q.Put(n, n)
		if thing, key, ok := q.Take(); thing != n || key != n || !ok {
			t.Errorf("of %d is taken %d by %d, %v", n, thing, key, ok)
		}
		(*queue.Queue[int])(nil).Put(n, n)
		words.Show(n)
		lex.Show([]lex.Sign{{Kind: n}, {Kind: lex.Times, Low: n, High: n}})
		if l, e := utf.Put(nil, rune(n)); e != api.OK && l != nil {
			t.Errorf("Put(%d) = %v, %v", rune(n), l, e)
		}
		if l, at, e := utf.Encode([]rune{'a', rune(n)}); e != api.OK && (l != nil || at != 1) {
			t.Errorf("Encode(a, %d) = %v, %d, %v", rune(n), l, at, e)
		}
		utf.Right(rune(n))
		utf.Len(rune(n))
	}
}

// letter means by a name the number of its first letter, from 1 on.
func letter(name string) bag.Bag { return bag.Of(int(name[0]-'a') + 1) }

// automata are a text's net and table.
func automata(t *testing.T, s string) (*nfa.Net, *dfa.Table) {
	t.Helper()
	parts, _, e := expr.Parse(s)
	n, f := nfa.New(parts, letter)
	x, g := dfa.New(n)
	if e != api.OK || f != api.OK || g != api.OK {
		t.Fatal(s, e, f, g)
	}
	return n, x
}

// P1: nets and tables are asked of numbers of any size, and nil ones answer zero values; a call of nil that has an error answers ErrNil.
func TestAutomata(t *testing.T) {
	n, x := automata(t, "a+ b{2} c?")
	var noNet *nfa.Net
	var noTable *dfa.Table
	if y, e := dfa.New(noNet); y != nil || e != api.ErrNil {
		t.Error(y, e)
	}
	for _, i := range numbers() {
		for _, k := range numbers() {
			if n.Fits(i, k) || noNet.Fits(i, k) {
				t.Errorf("%d %d fits", i, k)
			}
			for _, y := range []*dfa.Table{x, noTable} {
				if next, ok := y.Next(i, k); !ok && next != 0 || ok && (i < 0 || i >= y.States() || k < 0 || k > 31) {
					t.Errorf("Next(%d, %d) = %d, %v", i, k, next, ok)
				}
				if w, p, ok := least.Word(y, i, []int{k, k, k}); !ok && (w != nil || p != 0) || ok && (i < 0 || i >= y.States()) {
					t.Errorf("Word(%d) by %d: %v, %d, %v", i, k, w, p, ok)
				}
				if w, p, ok := least.Between(y, i, k, []int{i, k}); !ok && (w != nil || p != 0) || ok && (i < 0 || i >= y.States() || k < 0 || k >= y.States()) {
					t.Errorf("Between(%d, %d): %v, %d, %v", i, k, w, p, ok)
				}
				if l := least.Live(y, []int{i, k}); len(l) != y.States() {
					t.Errorf("Live by %d, %d: %v", i, k, l)
				}
				if at, ok := y.Run(i, k, k); !ok && at != 0 || ok && (i < 0 || i >= y.States() || k < 0 || k > 31) {
					t.Errorf("Run(%d, %d, %d) = %d, %v", i, k, k, at, ok)
				}
			}
		}
		if i < 0 || i > 5 {
			if n.Behind(i) != bag.Of() || n.On(i) != bag.Of() || x.Accepts(i) || x.Symbols(i) != bag.Of() {
				t.Errorf("something is told of %d", i)
			}
		}
		if noNet.Behind(i) != bag.Of() || noNet.On(i) != bag.Of() || noTable.Accepts(i) || noTable.Symbols(i) != bag.Of() {
			t.Errorf("something is told of %d, of nil", i)
		}
	}
	if noNet.Places() != 0 || noNet.Empty() || noNet.First() != bag.Of() || noNet.Ends() != bag.Of() || noTable.States() != 0 {
		t.Error("nil tells something")
	}
}

// P2: the first part that is wrong is told, and the error that is named first.
func TestFirstFaultIsTold(t *testing.T) {
	if _, at, e := utf.Decode([]byte("ab\x80c\xff")); at != 2 || e != api.ErrUtf {
		t.Error(at, e)
	}
	if _, at, e := utf.Encode([]rune{'a', 55296, -1}); at != 1 || e != api.ErrUtf {
		t.Error(at, e)
	}
	if _, _, e := utf.Next([]byte{0x80}, 1); e != api.ErrRange {
		t.Error(e)
	}
	if _, n, e := words.Lines(strings.Repeat("a", api.MaxText+1)); n != 0 || e != api.ErrLong {
		t.Error(n, e)
	}
	if _, at, e := lex.Lex("a{21}{0}A"); at != 2 || e != api.ErrRange {
		t.Error(at, e)
	}
	if _, at, e := expr.Parse("a || b{0}"); at != 7 || e != api.ErrRange {
		t.Error(at, e)
	}
	for want, text := range map[api.Errno]string{
		api.ErrForm: "node a\nnode text :: \nmark a b\n",
		api.ErrName: "node a\nnode text : a\nmark a b\n",
		api.ErrLong: strings.Repeat("node 1\n", 10000),
	} {
		if d, at, e := decl.Parse(text); e != want || !decl.Same(d, decl.Decl{}) || at != map[api.Errno]int{api.ErrForm: 2, api.ErrName: 2}[want] {
			t.Error(d, at, e)
		}
	}
	for want, text := range map[api.Errno]string{
		api.ErrName: "node a inline marks=b : c text\nnode b group=a inline :\n",
		api.ErrFit:  "node a inline marks=b : c text\n",
		api.ErrNone: "node a marks=b : a text\n",
		api.ErrFull: "node a : (a{20}){13}\nnode b : c\nnode d : a text\n",
	} {
		if c, e := schema.New(text); c != nil || e != want {
			t.Error(c, e)
		}
	}
	set := compiled(t)
	for want, w := range map[api.Errno]string{api.ErrForm: "b+link=0+x", api.ErrNone: "b+x+b", api.ErrRange: "b=1+x", api.ErrMark: "b+link=9+code"} {
		if m, e := marks.Parse(set, w); m != (api.Marks{}) || e != want {
			t.Error(w, m, e)
		}
	}
	for want, line := range map[api.Errno]string{api.ErrForm: "> b+code\" <x", api.ErrMark: "> b+code*x \"", api.ErrNone: "> x*p=9 <hr", api.ErrRange: "> b=1*p \"\xff"} {
		if l, at, e := token.Parse(set, line); l != nil || at != 2 || e != want {
			t.Error(line, l, at, e)
		}
	}
	unshut := []api.Token{{Kind: api.Open, Type: 2}, {}}
	for want, f := range map[api.Errno]func() (*tree.Node, api.Errno){
		api.ErrNil:  func() (*tree.Node, api.Errno) { return tree.Build(nil, make([]api.Token, api.MaxSize+1)) },
		api.ErrLong: func() (*tree.Node, api.Errno) { return tree.Build(set, make([]api.Token, api.MaxSize+1)) },
		api.ErrArg:  func() (*tree.Node, api.Errno) { return tree.Build(set, unshut) },
		api.ErrOpen: func() (*tree.Node, api.Errno) { return tree.Build(set, unshut[:1]) },
	} {
		if n, e := f(); n != nil || e != want {
			t.Error(n, e, want)
		}
	}
	n, _ := tree.Build(set, token.Text('a'))
	for want, one := range map[api.Errno]*tree.Node{api.ErrNil: nil, api.ErrArg: n.Kid(0), api.ErrRange: n} {
		if c, e := cut.Cut(one, 2, -1); c != nil || e != want {
			t.Error(c, e, want)
		}
		if at, e := spot.At(one, -1); at != (spot.Spot{}) || e != want {
			t.Error(at, e, want)
		}
	}
	for want, row := range map[api.Errno][]api.Token{api.ErrLong: make([]api.Token, api.MaxSize+1), api.ErrArg: unshut, api.ErrOpen: unshut[:1], api.ErrFit: token.Text('a')} {
		if n, e := fits.Doc(set, row); n != nil || e != want {
			t.Error(n, e, want)
		}
		if n, e := fits.Doc(nil, row); n != nil || e != api.ErrNil {
			t.Error(n, e)
		}
	}
	many, _, _ := expr.Parse("((a{20} b){20}){20}")
	nothing := func(string) bag.Bag { return bag.Bag{} }
	for want, f := range map[api.Errno]func() (*nfa.Net, api.Errno){
		api.ErrArg:  func() (*nfa.Net, api.Errno) { return nfa.New(many[:3], nothing) },
		api.ErrNone: func() (*nfa.Net, api.Errno) { return nfa.New(many, nothing) },
		api.ErrFull: func() (*nfa.Net, api.Errno) { return nfa.New(many, letter) },
	} {
		if n, e := f(); n != nil || e != want {
			t.Error(n, e, want)
		}
	}
}

// P3: what is handed in stays as it is, the room behind a list's end too.
func TestNothingHandedInChanges(t *testing.T) {
	room := []byte("ab\xe2\x82\xacXXXX")
	b := room[:5]
	utf.Put(b, 8364)
	utf.Put(b, -1)
	utf.Next(b, 2)
	utf.Decode(b)
	utf.Count(b)
	words.Hide(b)
	if string(room) != "ab\xe2\x82\xacXXXX" {
		t.Errorf("%q", room)
	}
	runes := []rune{'a', 8364, 'X', 'X'}
	utf.Encode(runes[:2])
	if !slices.Equal(runes, []rune{'a', 8364, 'X', 'X'}) {
		t.Error(runes)
	}
	list := []string{"a", "b", "X"}
	words.Join(list[:2]...)
	_ = append(queue.Sorted(nil, list[:2]...), "Y")
	_ = append(queue.Sorted(func(s string) int { return -int(s[0]) }, list[:2]...), "Y")
	if !slices.Equal(list, []string{"a", "b", "X"}) {
		t.Error(list)
	}
	made := func() ([]lex.Sign, expr.Expr) {
		signs, _, _ := lex.Lex("a (b|c)+ d")
		parts, _, _ := expr.Parse("a (b|c)+ d")
		return signs, parts
	}
	signs, parts := made()
	lex.Show(signs[:3])
	for n := range len(parts) + 1 {
		expr.Right(parts[:n])
		expr.Show(parts[:n])
		expr.Names(parts[:n])
		expr.Same(parts[:n], parts)
		nfa.New(parts[:n], letter)
	}
	if otherSigns, otherParts := made(); !slices.Equal(signs, otherSigns) || !expr.Same(parts, otherParts) {
		t.Error(signs, parts)
	}
	net, table := automata(t, "a b c")
	word := []int{1, 2, 3, 7, 7}
	table.Run(0, word[:2]...)
	least.Word(table, 0, word[:4])
	least.Between(table, 0, 1, word[:4])
	least.Live(table, word[:4])
	if !net.Fits(word[:3]...) || !slices.Equal(word, []int{1, 2, 3, 7, 7}) {
		t.Error(word)
	}
}

// P3: what lists of lists say stays as it is.
func TestNothingDeclaredChanges(t *testing.T) {
	made := func() decl.Decl {
		d, _, _ := decl.Parse("node a group=b group=c marks=b,c : a b\nnode b\nmark b bars=b,c\nmark c\n")
		return d
	}
	d := made()
	nodes, marks := d.Nodes, d.Marks
	groups, bars := d.Nodes[0].Groups, d.Marks[0].Bars
	d.Nodes, d.Marks = nodes[:1], marks[:1]
	d.Nodes[0].Groups, d.Marks[0].Bars = groups[:1], bars[:1]
	if s := decl.Show(d); s != "mark b bars=b\nnode a group=b marks=b,c : a b\n" || !decl.Same(d, d) {
		t.Errorf("%q", s)
	}
	nodes[0].Groups, marks[0].Bars = groups, bars
	if !decl.Same(decl.Decl{Nodes: nodes, Marks: marks}, made()) {
		t.Error(nodes, marks)
	}
}

// P3: what is answered is new memory.
func TestAnswersAreNew(t *testing.T) {
	parts, _, _ := expr.Parse("(a b) (c|d)")
	was := expr.Show(parts)
	signs, _, _ := lex.Lex("a b")
	names := expr.Names(parts)
	for i := range parts {
		parts[i].Kids = append(parts[i].Kids, 7)
		parts[i].Kids[0], parts[i].Name = 9, "x"
	}
	signs[0], names[0] = lex.Sign{}, "x"
	if again, _, _ := expr.Parse("(a b) (c|d)"); expr.Show(again) != was || expr.Names(again)[0] != "a" {
		t.Error(again)
	}
	if again, _, _ := lex.Lex("a b"); again[0].Name != "a" {
		t.Error(again)
	}
	// Room behind one part's kids isn't another one's.
	parts, _, _ = expr.Parse("(a b) (c|d) e")
	for i := range parts {
		_ = append(parts[i].Kids, 5, 5, 5)
	}
	if expr.Show(parts) != "( a b ) ( c | d ) e" {
		t.Error(parts)
	}
}

// P4: values are copied by =, and the same by == if they hold the same.
func TestValuesAreCopied(t *testing.T) {
	one := api.Token{Kind: api.Char, Rune: 'a', Marks: api.Marks{0, 3}}
	two := one
	two.Marks[1] = 4
	if one.Marks[1] != 3 || one == two {
		t.Error(one, two)
	}
	two.Marks[1] = 3
	if one != two || (api.Sel{Kind: api.SelText, Anchor: 1, Head: 2}) != (api.Sel{Kind: 1, Anchor: 1, Head: 2}) {
		t.Error(one, two)
	}
	var empty bag.Bag
	other := empty
	other.With(3)
	if other != empty || bag.Of() != empty || bag.Of(-1, 256) != empty {
		t.Error("bags")
	}
	other = bag.Of(7, 70)
	third := other
	third = third.With(8)
	if other != bag.Of(70, 7) || third != other.Or(bag.Of(8)) || third == other {
		t.Error(other.List(), third.List())
	}
	kept := pin.Of(api.Sel{Kind: api.SelText, Anchor: 1, Head: 2})
	same := kept
	same.B = 3
	if kept != (pin.Pin{Kind: 1, A: 1, B: 2}) || same == kept || same.Through(nil) != same || kept.Through(&route.Route{}) != kept || pin.Of(api.Sel{Kind: api.SelNode, Anchor: 1, Head: 2}) != pin.Of(api.Sel{Kind: api.SelNode, Anchor: 1, Head: 3}) {
		t.Error(kept, same)
	}
}

// P5: numbers aren't let go round, and have one form.
func TestNumbersAsTheyAre(t *testing.T) {
	for _, w := range []string{"18446744073709551617", "9223372036854775808", "-9223372036854775809", "340282366920938463463374607431768211457", "01", "-0", "+1", "-", "1 "} {
		if n, ok := words.Num(w); ok || n != 0 {
			t.Errorf("Num(%q) = %d, %v", w, n, ok)
		}
	}
	if b := bag.Of(1<<32, 1<<32+3, -253, 1<<63-1); b != bag.Of() || bag.Of(3).Has(1<<32+3) || bag.Of(3).Has(-253) {
		t.Error(b.List())
	}
	if l := queue.Sorted(func(n int) int { return n }, numbers()...); !slices.IsSorted(l) {
		t.Error(l)
	}
	for _, n := range numbers() {
		if back, ok := words.Num(words.Show(n)); !ok || back != n {
			t.Errorf("%d: %q, %d", n, words.Show(n), back)
		}
	}
	for _, n := range []string{"4294967297", "18446744073709551617", "02", "+2", "-2"} {
		if l, at, e := lex.Lex("a{" + n + "}"); l != nil || at < 2 || at > 4 || e != api.ErrForm {
			t.Errorf("a count %s: %v, %d, %v", n, l, at, e)
		}
	}
	if expr.Right(expr.Expr{{Kind: expr.Name, Name: "a"}, {Kind: expr.Times, Low: 1 << 32, High: 1<<32 + 1, Kids: []int{1 << 32}}}) {
		t.Error("a count of 2^32")
	}
	for _, n := range []string{"4294967297", "18446744073709551617", "02", "+2", "-2", "-0", "1000"} {
		if d, at, e := decl.Parse("node a attr=" + n + "\n"); d.Nodes != nil || at != 1 || e != api.ErrForm {
			t.Errorf("an attribute %s: %+v, %d, %v", n, d, at, e)
		}
	}
	_, table := automata(t, "a")
	for _, n := range numbers() {
		if s := decl.Show(decl.Decl{Marks: []decl.Mark{{Name: "a", Value: n}}}); (s != "") != (n >= 0 && n <= api.MaxValue) {
			t.Errorf("a value %d is shown as %q", n, s)
		}
		if w, p, ok := least.Word(table, 0, []int{0, n}); ok != (n >= 0 && n <= 1000000) || ok && (p != n || len(w) != 1) {
			t.Errorf("Word by %d: %v, %d, %v", n, w, p, ok)
		}
		if _, _, ok := least.Between(table, n, n, nil); ok != (n == 0 || n == 1) {
			t.Errorf("Between(%d, %d): %v", n, n, ok)
		}
	}
	if _, _, e := utf.Next([]byte("abc"), 1<<32+1); e != api.ErrRange {
		t.Error(e)
	}
}

// P6: what a call answers doesn't hang on the calls ahead of it.
func TestNothingIsKept(t *testing.T) {
	say := func() string {
		l, _ := words.Split("a b\\s \xff")
		b, at, e := utf.Encode([]rune{'a', 8364, 128512})
		k, n, f := utf.Decode([]byte("ab\x80"))
		lowest, _ := bag.Of(9, 4, 4).First()
		l = append(queue.Sorted(func(s string) int { return len(s) }, l...), words.Show(lowest))
		parts, _, _ := expr.Parse("(a|b)+ c{2,3} a")
		signs, place, wrong := lex.Lex("a{0,0}")
		net, table := automata(t, "(a|b)+ c{2,3} a")
		end, ok := table.Run(0, 1, 2, 3, 3, 1)
		for _, n := range append(net.Behind(3).List(), net.Places(), end, table.States()) {
			l = append(l, words.Show(n))
		}
		if !ok || !table.Accepts(end) || !net.Fits(2, 3, 3, 1) {
			t.Error(end, ok)
		}
		best, price, _ := least.Word(table, 0, []int{0, 3, 3, 1})
		for _, n := range append(best, price, len(least.Live(table, best))) {
			l = append(l, words.Show(n))
		}
		said, line, fault := decl.Parse("node a marks=b,c group=g : (a|b)\nmark b bars=*\n")
		l = append(l, decl.Show(said), words.Show(line), fault.Error())
		l = append(l, compiledSay(t, compiled(t))...)
		l = append(l, treeSay(compiled(t), `<p=9 "ab b"c link=4*br > *hr`)...)
		l = append(l, cutSay(t, `<p=9 "ab b"c link=4*br > *hr <p "d >`)...)
		l = append(l, scanSay(t, `<p=9 "ab b"c link=4*br > *hr <p "d >`)...)
		l = append(l, scanSay(t, `<p <p "x > > *hr`)...)
		l = append(l, fillSay(t, `<p <p "x > > *hr`)...)
		l = append(l, patchSay(t, `<p=9 link=4*br > *hr <p *br >`)...)
		l = append(l, routeSay(t)...)
		l = append(l, stepSay(t, `<p=9 link=4*br > *hr <p *br >`)...)
		l = append(l, txSay(t, `<p=9 link=4*br > *hr <p *br >`)...)
		l = append(l, moveSay(t, `<p=9 link=4*br > *hr <p *br >`)...)
		l = append(l, selSay(t, `<p=9 link=4*br > *hr <p *br >`)...)
		l = append(l, followSay(t, `<p=9 link=4*br > *hr <p *br >`)...)
		l = append(l, chainSay(t)...)
		l = append(append(l, expr.Names(parts)...), expr.Show(parts), lex.Show(signs), words.Show(place), wrong.Error())
		return words.Join(append(l, words.Hide(b), words.Show(at), e.Error(), string(k), words.Show(n), f.Error())...)
	}
	was := say()
	for _, s := range texts() {
		utf.Decode([]byte(s))
		words.Lines(s)
		words.Bare(s)
		words.Hide([]byte(s))
		lex.Lex(s)
		expr.Parse(s)
		decl.Parse("node a : " + s + "\n")
		decl.Show(declared(s, len(s)))
		schema.New("node a : " + s + "\n")
		marks.Parse(compiled(t), s)
		treeSay(compiled(t), "<p \""+s)
		cutSay(t, "<p > "+s)
		scanSay(t, "<p > "+s)
		fillSay(t, "<p > "+s)
		patchSay(t, "<p > "+s)
		routeSay(t)
		var q queue.Queue[string]
		q.Put(len(s), s)
		bag.Of(len(s)).List()
	}
	for _, e := range exprs() {
		n, _ := nfa.New(e, letter)
		x, _ := dfa.New(n)
		least.Word(x, 0, numbers())
	}
	stepSay(t, `*hr <p b*br > <p >`)
	txSay(t, `*hr <p b*br > <p >`)
	moveSay(t, `*hr <p b*br > <p >`)
	selSay(t, `*hr <p b*br > <p >`)
	followSay(t, `*hr <p b*br > <p >`)
	chainSay(t)
	if now := say(); now != was {
		t.Errorf("%q, then %q", was, now)
	}
}

// P7: what is handed out to be ranged over is never nil, and tells nothing of nil objects, as often as it is ranged over.
func TestRangedOver(t *testing.T) {
	all := bag.Bag{}.All()
	drain := (*queue.Queue[int])(nil).Drain()
	between := scan.Between(nil, 0, 10)
	places := near.Places(nil, nil)
	if all == nil || drain == nil || between == nil || places == nil {
		t.Fatal("a nil function to be ranged over")
	}
	for range 2 {
		for n := range all {
			t.Error(n)
		}
		for n := range drain {
			t.Error(n)
		}
		for n := range between {
			t.Error(n)
		}
		for sel := range places {
			t.Error(sel)
		}
	}
}

// P7: what is ranged over is told from its beginning each time, and no more once it is stopped; a queue alone is drained.
func TestRangedOverAgain(t *testing.T) {
	all := bag.Of(2, 100, 200).All()
	for range 3 {
		var got []int
		for n := range all {
			if got = append(got, n); n == 100 {
				break
			}
		}
		if !slices.Equal(got, []int{2, 100}) {
			t.Error(got)
		}
	}
	between := scan.Between(lineTree(compiled(t), `<p "ab > *hr`), 2, 5)
	for range 3 {
		var got []int
		for at := range between {
			if got = append(got, at); at == 1 {
				break
			}
		}
		if !slices.Equal(got, []int{0, 1}) {
			t.Error(got)
		}
	}
	places := near.Places(compiled(t), lineTree(compiled(t), `<p *br > *hr`))
	for range 3 {
		var got []int
		for x := range places {
			if got = append(got, x.Anchor); x.Anchor == 2 {
				break
			}
		}
		if !slices.Equal(got, []int{0, 1, 2}) {
			t.Error(got)
		}
	}
	var q queue.Queue[string]
	q.Put(2, "b")
	q.Put(1, "a")
	drain := q.Drain()
	for _, want := range []string{"a", "b", ""} {
		got := ""
		for _, got = range drain {
			break
		}
		if got != want {
			t.Error(got, want)
		}
	}
}
