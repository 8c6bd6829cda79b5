package decl

import (
	"math/rand/v2"
	"regexp"
	"slices"
	"strconv"
	"strings"
	"testing"

	"stet/api"
	"stet/expr"
)

// aName is the document's name, told once more by itself.
var aName = regexp.MustCompile(`^[a-z][a-z0-9]{0,11}$`)

// isOK tells whether a text is parsed to what is wanted, and whether that is shown as it should be.
func isOK(t *testing.T, text string, want Decl, shown string) {
	t.Helper()
	d, at, e := Parse(text)
	if at != 0 || e != api.OK || !Same(d, want) {
		t.Errorf("Parse(%q) = %+v, %d, %v", text, d, at, e)
	}
	if s := Show(want); s != shown {
		t.Errorf("Show(%+v) = %q", want, s)
	}
	if back, at, e := Parse(shown); at != 0 || e != api.OK || !Same(back, want) {
		t.Errorf("Parse(%q) = %+v, %d, %v", shown, back, at, e)
	}
}

// P10.1, P10.2, P10.3: one line, with each option, in any order.
func TestLine(t *testing.T) {
	for _, x := range []struct {
		line, shown string
		node        Node
	}{
		{"node a", "node a", Node{Name: "a", Leaf: true}},
		{"node a23456789012", "node a23456789012", Node{Name: "a23456789012", Leaf: true}},
		{"node a :", "node a :", Node{Name: "a"}},
		{"node p group=block marks=* : text*", "node p group=block marks=* : text*", Node{Name: "p", Groups: []string{"block"}, All: true, Expr: "text*"}},
		{"node a : (a|b)+ a{0,1}", "node a : ( a | b )+ a?", Node{Name: "a", Expr: "( a | b )+ a?"}},
		{"node a : ( a ) | b", "node a : a | b", Node{Name: "a", Expr: "a | b"}},
		{"node a inline", "node a inline", Node{Name: "a", Inline: true, Leaf: true}},
		{"node a pick", "node a pick", Node{Name: "a", Pick: true, Leaf: true}},
		{"node a pick inline", "node a inline pick", Node{Name: "a", Inline: true, Pick: true, Leaf: true}},
		{"node a inline pick :", "node a inline pick :", Node{Name: "a", Inline: true, Pick: true}},
		{"node a attr=0", "node a", Node{Name: "a", Leaf: true}},
		{"node a attr=1", "node a attr=1", Node{Name: "a", Attr: 1, Leaf: true}},
		{"node a attr=999", "node a attr=999", Node{Name: "a", Attr: 999, Leaf: true}},
		{"node a marks=*", "node a marks=*", Node{Name: "a", All: true, Leaf: true}},
		{"node a marks=b", "node a marks=b", Node{Name: "a", Marks: []string{"b"}, Leaf: true}},
		{"node a marks=c,b,a,text", "node a marks=c,b,a,text", Node{Name: "a", Marks: []string{"c", "b", "a", "text"}, Leaf: true}},
		{"node a group=a", "node a group=a", Node{Name: "a", Groups: []string{"a"}, Leaf: true}},
		{"node a group=text", "node a group=text", Node{Name: "a", Groups: []string{"text"}, Leaf: true}},
		{"node a group=d group=c group=b group=a", "node a group=d group=c group=b group=a", Node{Name: "a", Groups: []string{"d", "c", "b", "a"}, Leaf: true}},
		{"node a marks=x,y group=d attr=20 group=c pick group=b inline : b", "node a group=d group=c group=b inline pick attr=20 marks=x,y : b", Node{Name: "a", Groups: []string{"d", "c", "b"}, Inline: true, Pick: true, Attr: 20, Marks: []string{"x", "y"}, Expr: "b"}},
		{"node node group=inline marks=mark,node : pick", "node node group=inline marks=mark,node : pick", Node{Name: "node", Groups: []string{"inline"}, Marks: []string{"mark", "node"}, Expr: "pick"}},
	} {
		isOK(t, x.line+"\n", Decl{Nodes: []Node{x.node}}, x.shown+"\n")
	}
	for _, x := range []struct {
		line, shown string
		mark        Mark
	}{
		{"mark b", "mark b", Mark{Name: "b"}},
		{"mark text", "mark text", Mark{Name: "text"}},
		{"mark b val=0", "mark b", Mark{Name: "b"}},
		{"mark b val=7", "mark b val=7", Mark{Name: "b", Value: 7}},
		{"mark b val=999 bars=*", "mark b val=999 bars=*", Mark{Name: "b", Value: 999, All: true}},
		{"mark b bars=c,b val=1", "mark b val=1 bars=c,b", Mark{Name: "b", Value: 1, Bars: []string{"c", "b"}}},
		{"mark b bars=c", "mark b bars=c", Mark{Name: "b", Bars: []string{"c"}}},
	} {
		isOK(t, x.line+"\n", Decl{Marks: []Mark{x.mark}}, x.shown+"\n")
	}
}

// P10.1, P10.2, P10.3: many lines; marks are shown ahead of nodes, each in their order; lines without words are passed over.
func TestLines(t *testing.T) {
	isOK(t, "", Decl{}, "")
	isOK(t, "\n\n", Decl{}, "")
	a, b, m, n := Node{Name: "b", Expr: "a*"}, Node{Name: "a", Leaf: true}, Mark{Name: "n"}, Mark{Name: "b", Bars: []string{"n"}}
	isOK(t, "\nnode b : a*\nmark n\n\nnode a\n\nmark b bars=n\n", Decl{Nodes: []Node{a, b}, Marks: []Mark{m, n}}, "mark n\nmark b bars=n\nnode b : a*\nnode a\n")
	isOK(t, "node a\nmark n\n", Decl{Nodes: []Node{b}, Marks: []Mark{m}}, "mark n\nnode a\n")
}

// wrong tells whether a text has just this error at that line.
func wrong(t *testing.T, text string, at int, want api.Errno) {
	t.Helper()
	if d, i, e := Parse(text); i != at || e != want || d.Nodes != nil || d.Marks != nil {
		t.Errorf("Parse(%.60q) = %+v, %d, %v, not %d, %v", text, d, i, e, at, want)
	}
}

// P10.1: what is no line, or none of these.
func TestForm(t *testing.T) {
	for _, line := range []string{
		" ", " node a", "node a ", "node  a", "node a  pick", "node\ta", "node a\r", "node a\x00", "node a : a  b", "node a : ",
		"node", "mark", "a", ":", "nodes a", "Node a", "NODE a", "group a", "text a", "node=a", "# a",
		"node A", "node 1a", "node a-b", "node a_", "node \xc3\xa4", "node abcdefghijklm", "node :", "node : a", "node (a)", "node a*", "node a|b", "node *", "mark A", "mark :", "mark abcdefghijklm", "mark a*",
		"node a b", "node a Inline", "node a inline=", "node a inline=1", "node a inlinepick", "node a pick=", "node a inline,pick", "node a leaf", "node a val=1", "node a bars=b", "node a *",
		"node a inline inline", "node a pick attr=1 pick", "node a attr=1 attr=1", "node a attr=0 attr=0", "node a marks=* marks=*", "node a marks=b marks=c", "node a marks=* marks=b",
		"node a group", "node a group=", "node a group=B", "node a group=1", "node a group=*", "node a group=b,c", "node a group=b=c", "node a group=abcdefghijklm", "node a group=b group=b", "node a group=b group=c group=b", "node a group=a group=b group=c group=d group=e",
		"node a attr", "node a attr=", "node a attr=-1", "node a attr=1000", "node a attr=01", "node a attr=-0", "node a attr=+1", "node a attr=1.", "node a attr=x", "node a attr=1,2", "node a attr=4294967297", "node a attr=18446744073709551617", "node a attr==1",
		"node a marks", "node a marks=", "node a marks=,", "node a marks=b,", "node a marks=,b", "node a marks=b,,c", "node a marks=b,b", "node a marks=b,c,b", "node a marks=*,b", "node a marks=b,*", "node a marks=**", "node a marks=B", "node a marks=b;c", "node a marks=abcdefghijklm",
		"node a : |", "node a : ( b", "node a : b )", "node a : B", "node a : b{0}", "node a : b{21}", "node a : b **", "node a : :", "node a : b : c", "node a : " + strings.Repeat("b", 13), "node a :b", "node a: b", "node a : b inline=", "node a : " + strings.Repeat("b ", 200) + "b",
		"mark b c", "mark b inline", "mark b pick", "mark b group=c", "mark b attr=1", "mark b marks=*", "mark b :", "mark b : a", "mark b : c",
		"mark b val", "mark b val=", "mark b val=1000", "mark b val=-1", "mark b val=00", "mark b val=1 val=1", "mark b val=0 val=0",
		"mark b bars", "mark b bars=", "mark b bars=c,", "mark b bars=c,c", "mark b bars=*,c", "mark b bars=* bars=*", "mark b bars=c bars=d", "mark b bars=C",
	} {
		wrong(t, line+"\n", 1, api.ErrForm)
		wrong(t, "\nnode ok\nmark ok\n"+line+"\nnode 1\n", 4, api.ErrForm)
	}
	if _, _, e := Parse("node a : " + strings.Repeat("b ", 199) + "b\n"); e != api.OK {
		t.Error(e)
	}
}

// P10.1: the errors of a line in their order, those of lines ahead first, and Lines' errors ahead of all.
func TestOrder(t *testing.T) {
	nodes, marks := "", ""
	for i := range 24 {
		nodes += "node n" + strconv.Itoa(i) + "\n"
	}
	for i := range 8 {
		marks += "mark m" + strconv.Itoa(i) + "\n"
	}
	if d, at, e := Parse(nodes + marks); at != 0 || e != api.OK || len(d.Nodes) != 24 || len(d.Marks) != 8 || Show(d) != marks+nodes {
		t.Error(d, at, e)
	}
	for _, x := range []struct {
		text string
		at   int
		want api.Errno
	}{
		{"node a\nnode a\n", 2, api.ErrName},
		{"mark a\nnode a\nmark b\n\nmark a val=1\n", 5, api.ErrName},
		{"node a\nnode b\nnode a : b\n", 3, api.ErrName},
		{"node text\n", 1, api.ErrName},
		{"\nnode text inline\n", 2, api.ErrName},
		{"node a\nnode a b\n", 2, api.ErrForm},
		{"node a\nnode a b\nnode text\n", 2, api.ErrForm},
		{"node text text\n", 1, api.ErrForm},
		{"node a\nnode a\nnode\n", 2, api.ErrName},
		{"mark m\nmark m m\n", 2, api.ErrForm},
		{nodes + "node a\n", 25, api.ErrLong},
		{nodes + marks + "node a\n", 33, api.ErrLong},
		{nodes + "node n0\n", 25, api.ErrName},
		{nodes + "node n23\n", 25, api.ErrName},
		{nodes + "node text\n", 25, api.ErrName},
		{nodes + "node a b\n", 25, api.ErrForm},
		{nodes + "node a\nnode a b\n", 25, api.ErrLong},
		{nodes + "mark n0\nnode a\n", 26, api.ErrLong},
		{marks + "mark a\n", 9, api.ErrLong},
		{marks + "mark m0\n", 9, api.ErrName},
		{marks + "mark m7\n", 9, api.ErrName},
		{marks + "mark a b\n", 9, api.ErrForm},
		{marks + "node m0\nmark a\n", 10, api.ErrLong},
		{"node a", 1, api.ErrForm},
		{"node", 1, api.ErrForm},
		{"node text\nnode a\nmark b", 3, api.ErrForm},
		{"x\nx\n ", 3, api.ErrForm},
		{"x\n" + strings.Repeat("\n", 65536), 0, api.ErrLong},
		{strings.Repeat("a", 65537), 0, api.ErrLong},
		{strings.Repeat("\n", 65535) + "x", 65536, api.ErrForm},
		{strings.Repeat("\n", 65534) + "x\n", 65535, api.ErrForm},
	} {
		wrong(t, x.text, x.at, x.want)
	}
	// A node and a mark may be called alike.
	if _, _, e := Parse("node a\nmark a\nmark b\nnode b\n"); e != api.OK {
		t.Error(e)
	}
}

// P10.1: each byte, as all of a name, at its beginning, and in it; and names of each length.
func TestNames(t *testing.T) {
	var names []string
	for c := range 256 {
		s := string([]byte{byte(c)})
		names = append(names, s, s+"b", "b"+s)
	}
	for n := range 16 {
		names = append(names, strings.Repeat("b", n), strings.Repeat("b", n)+"7")
	}
	for _, name := range names {
		if strings.ContainsAny(name, "=,* \n") {
			continue // these end a name, or are none; they stand among those above
		}
		want := api.ErrForm
		if aName.MatchString(name) {
			want = api.OK
		}
		for _, line := range []string{"node " + name, "mark " + name, "node a group=" + name, "node a marks=other," + name, "mark a bars=" + name + ",other"} {
			if _, _, e := Parse(line + "\n"); e != want {
				t.Errorf("Parse(%q): %v", line, e)
			}
		}
	}
}

// P10.1: all numbers, in their one form.
func TestNumbers(t *testing.T) {
	for n := -2; n < 1100; n++ {
		w := strconv.Itoa(n)
		want := api.ErrForm
		if n >= 0 && n <= 999 {
			want = api.OK
		}
		d, _, e := Parse("node a attr=" + w + "\nmark a val=" + w + "\n")
		if e != want || e == api.OK && (d.Nodes[0].Attr != n || d.Marks[0].Value != n) {
			t.Errorf("%d: %v", n, e)
		}
		if n > 0 {
			wrong(t, "node a attr=0"+w+"\n", 1, api.ErrForm)
		}
	}
}

// P10.2: what no text tells is shown as nothing.
func TestNotShown(t *testing.T) {
	for i, n := range []Node{
		{}, {Name: "A"}, {Name: "text"}, {Name: "abcdefghijklm"}, {Name: "a b"}, {Name: "a pick", Leaf: true}, {Name: "a\nnode b"}, {Name: " a"}, {Name: "a "}, {Name: "\xff"}, {Name: "a :", Leaf: true}, {Name: "a\n"},
		{Name: "a", Leaf: true, Expr: "b"}, {Name: "a", Leaf: true, Expr: "pick"}, {Name: "a", Leaf: true, Expr: ": b"}, {Name: "a", Expr: "a  b"}, {Name: "a", Expr: "a|b"}, {Name: "a", Expr: "(a)"}, {Name: "a", Expr: " "}, {Name: "a", Expr: "a{1,1}"}, {Name: "a", Expr: "( a"}, {Name: "a", Expr: "a\nnode b :"}, {Name: "a", Expr: "a\n"}, {Name: "a", Expr: strings.Repeat("b ", 200) + "b"},
		{Name: "a", Attr: -1}, {Name: "a", Attr: 1000}, {Name: "a", Attr: 1 << 32}, {Name: "a", Attr: -1 << 63}, {Name: "a", Attr: 1<<63 - 1},
		{Name: "a", Groups: []string{""}}, {Name: "a", Groups: []string{"B"}}, {Name: "a", Groups: []string{"b", "b"}}, {Name: "a", Groups: []string{"b", "c", "d", "e", "f"}}, {Name: "a", Groups: []string{"b group=c"}}, {Name: "a", Groups: []string{"b pick"}}, {Name: "a", Groups: []string{"*"}},
		{Name: "a", Marks: []string{""}}, {Name: "a", Marks: []string{"b", "b"}}, {Name: "a", Marks: []string{"b,c"}}, {Name: "a", Marks: []string{"*"}}, {Name: "a", Marks: []string{"b", ""}}, {Name: "a", All: true, Marks: []string{"b"}}, {Name: "a", Marks: []string{"b inline"}},
	} {
		if s := Show(Decl{Nodes: []Node{n}}); s != "" {
			t.Errorf("%d: %q", i, s)
		}
	}
	for i, m := range []Mark{
		{}, {Name: "B"}, {Name: "b val=1"}, {Name: "b\nmark c"}, {Name: "abcdefghijklm"},
		{Name: "b", Value: -1}, {Name: "b", Value: 1000}, {Name: "b", Value: 1 << 62},
		{Name: "b", Bars: []string{""}}, {Name: "b", Bars: []string{"c", "c"}}, {Name: "b", Bars: []string{"c,d"}}, {Name: "b", Bars: []string{"*"}}, {Name: "b", All: true, Bars: []string{"c"}}, {Name: "b", Bars: []string{"c val=1"}},
	} {
		if s := Show(Decl{Marks: []Mark{m}}); s != "" {
			t.Errorf("%d: %q", i, s)
		}
	}
	a, b := Node{Name: "a"}, Mark{Name: "b"}
	if s := Show(Decl{Nodes: []Node{a, a}}) + Show(Decl{Marks: []Mark{b, b}}) + Show(Decl{Nodes: []Node{a, {}}}) + Show(Decl{Nodes: make([]Node, 70000)}); s != "" {
		t.Error(s)
	}
	var many Decl
	for i := range 25 {
		many.Nodes = append(many.Nodes, Node{Name: "n" + strconv.Itoa(i), Leaf: true})
		many.Marks = append(many.Marks, Mark{Name: "m" + strconv.Itoa(i)})
	}
	if Show(Decl{Nodes: many.Nodes}) != "" || Show(Decl{Marks: many.Marks[:9]}) != "" || Show(Decl{Nodes: many.Nodes[:24], Marks: many.Marks[:8]}) == "" {
		t.Error("more than there may be")
	}
}

// longLine is a node's line of that many bytes, with many marks.
func longLine(size int) string {
	line := "node a marks=b10000"
	for i := 10001; len(line)+len(",b00000") <= size; i++ {
		line += ",b" + strconv.Itoa(i)
	}
	return line + strings.Repeat("x", size-len(line))
}

// P10.1, P10.2: a text as long as it may be, and one whose lines are longer than they were.
func TestLong(t *testing.T) {
	full := longLine(api.MaxText-1) + "\n"
	d, at, e := Parse(full)
	if at != 0 || e != api.OK || len(full) != api.MaxText || Show(d) != full {
		t.Fatal(len(full), len(d.Nodes), at, e)
	}
	d.Nodes[0].Marks[0] += "x"
	if Show(d) != "" {
		t.Error("too long a text is shown")
	}
	const short, shown = " : (b|c)+\n", " : ( b | c )+\n"
	for more, want := range map[int]bool{0: true, 1: false, len(shown) - len(short): false} {
		line := longLine(api.MaxText - len(shown) + more)
		d, at, e = Parse(line + short)
		if at != 0 || e != api.OK || (Show(d) == line+shown) != want || (Show(d) == "") == want {
			t.Error(more, at, e, len(Show(d)))
		}
	}
}

// P10.2: the same, field by field.
func TestSame(t *testing.T) {
	made := func() Decl {
		return Decl{Nodes: []Node{{Name: "a", Groups: []string{"g", "h"}, Attr: 1, Marks: []string{"m", "n"}, Expr: "b"}, {Name: "b"}}, Marks: []Mark{{Name: "m", Value: 2, Bars: []string{"m", "n"}}, {Name: "n"}}}
	}
	if !Same(made(), made()) || !Same(Decl{}, Decl{Nodes: []Node{}, Marks: []Mark{}}) || !Same(Decl{Nodes: []Node{{Groups: []string{}}}}, Decl{Nodes: []Node{{Marks: []string{}}}}) || !Same(Decl{Marks: []Mark{{Bars: []string{}}}}, Decl{Marks: []Mark{{}}}) {
		t.Error("what is the same isn't")
	}
	for i, change := range []func(d *Decl){
		func(d *Decl) { d.Nodes[0].Name = "c" },
		func(d *Decl) { d.Nodes[0].Groups[1] = "g" },
		func(d *Decl) { d.Nodes[0].Groups = d.Nodes[0].Groups[:1] },
		func(d *Decl) { d.Nodes[0].Groups = nil },
		func(d *Decl) { slices.Reverse(d.Nodes[0].Groups) },
		func(d *Decl) { d.Nodes[0].Inline = true },
		func(d *Decl) { d.Nodes[0].Pick = true },
		func(d *Decl) { d.Nodes[0].Leaf = true },
		func(d *Decl) { d.Nodes[0].Attr = 0 },
		func(d *Decl) { d.Nodes[0].All = true },
		func(d *Decl) { d.Nodes[0].Marks[0] = "" },
		func(d *Decl) { d.Nodes[0].Marks = append(d.Nodes[0].Marks, "") },
		func(d *Decl) { slices.Reverse(d.Nodes[0].Marks) },
		func(d *Decl) { d.Nodes[0].Expr = "b " },
		func(d *Decl) { d.Nodes[1].Leaf = true },
		func(d *Decl) { d.Nodes = d.Nodes[:1] },
		func(d *Decl) { d.Nodes = append(d.Nodes, Node{}) },
		func(d *Decl) { slices.Reverse(d.Nodes) },
		func(d *Decl) { d.Nodes = nil },
		func(d *Decl) { d.Marks[0].Name = "n" },
		func(d *Decl) { d.Marks[0].Value = 3 },
		func(d *Decl) { d.Marks[0].All = true },
		func(d *Decl) { d.Marks[0].Bars[1] = "o" },
		func(d *Decl) { d.Marks[0].Bars = d.Marks[0].Bars[1:] },
		func(d *Decl) { d.Marks[1].Bars = []string{""} },
		func(d *Decl) { d.Marks = d.Marks[:1] },
		func(d *Decl) { d.Marks = append(d.Marks, Mark{}) },
		func(d *Decl) { slices.Reverse(d.Marks) },
		func(d *Decl) { d.Marks = nil },
	} {
		d := made()
		change(&d)
		if Same(made(), d) || Same(d, made()) || !Same(d, d) {
			t.Errorf("change %d isn't seen", i)
		}
	}
}

// some are a few of the names, in an order by chance, and perhaps what isn't one.
func some(chance *rand.Rand, most int) []string {
	names := []string{"a", "b", "c", "d1", "text", "node", "abcdefghijkl"}
	chance.Shuffle(len(names), func(i, k int) { names[i], names[k] = names[k], names[i] })
	names = names[:chance.IntN(most+1)]
	if chance.IntN(40) == 0 {
		names = append(names, []string{"", "B", "*", "a", "a,b", "a b", "abcdefghijklm"}[chance.IntN(7)])
	}
	return names
}

// number is a number by chance, mostly one that may be.
func number(chance *rand.Rand) int {
	return []int{0, 0, 0, 1, 12, 999, 999, 1, 100, 45, 7, 8, 9, 10, 1000, -1}[chance.IntN(16)]
}

// byChance is nodes and marks by chance, mostly such as may be.
func byChance(chance *rand.Rand) Decl {
	var d Decl
	for _, name := range some(chance, 4) {
		n := Node{Name: name, Groups: some(chance, 4), Inline: chance.IntN(2) == 0, Pick: chance.IntN(2) == 0, Leaf: chance.IntN(2) == 0, Attr: number(chance), All: chance.IntN(3) == 0}
		if !n.All || chance.IntN(60) == 0 {
			n.Marks = some(chance, 3)
		}
		if !n.Leaf || chance.IntN(60) == 0 {
			n.Expr = []string{"", "a", "a*", "( a | b )+", "a b{2,3} text?", "a | b c", "( a{20} ){4}", "a ( b | a b )", "(a)", "a|b"}[chance.IntN(8+chance.IntN(30)/28*2)]
		}
		d.Nodes = append(d.Nodes, n)
	}
	for _, name := range some(chance, 4) {
		m := Mark{Name: name, Value: number(chance), All: chance.IntN(3) == 0}
		if !m.All || chance.IntN(60) == 0 {
			m.Bars = some(chance, 3)
		}
		d.Marks = append(d.Marks, m)
	}
	return d
}

// may tells whether a text tells this, asked by rules of its own.
func may(d Decl) bool {
	unlike := func(l []string) bool {
		for i, s := range l {
			if !aName.MatchString(s) || slices.Contains(l[:i], s) {
				return false
			}
		}
		return true
	}
	var nodes, marks []string
	ok := true
	for _, n := range d.Nodes {
		nodes = append(nodes, n.Name)
		e, _, f := expr.Parse(n.Expr)
		ok = ok && n.Name != "text" && unlike(n.Groups) && len(n.Groups) <= 4 && unlike(n.Marks) && !(n.All && len(n.Marks) > 0) && n.Attr >= 0 && n.Attr <= 999 && f == api.OK && expr.Show(e) == n.Expr && !(n.Leaf && n.Expr != "")
	}
	for _, m := range d.Marks {
		marks = append(marks, m.Name)
		ok = ok && unlike(m.Bars) && !(m.All && len(m.Bars) > 0) && m.Value >= 0 && m.Value <= 999
	}
	return ok && unlike(nodes) && unlike(marks)
}

// written is a text that tells this in a way by chance, and the way in which it is shown.
func written(chance *rand.Rand, d Decl) (string, string) {
	var lines, shown []string
	lay := func(begin string, options []string, end string) {
		shown = append(shown, strings.Join(append([]string{begin}, options...), " ")+end)
		chance.Shuffle(len(options), func(i, k int) {
			// Groups are told in their order.
			if !strings.HasPrefix(options[i], "group=") && !strings.HasPrefix(options[k], "group=") {
				options[i], options[k] = options[k], options[i]
			}
		})
		if chance.IntN(2) == 0 {
			slices.SortStableFunc(options, func(a, b string) int { return strings.Compare(b[:2], a[:2]) })
		}
		lines = append(lines, strings.Join(append([]string{begin}, options...), " ")+end)
	}
	for _, m := range d.Marks {
		lay("mark "+m.Name, append(numbered("val=", m.Value), listed("bars=", m.All, m.Bars)...), "")
	}
	ahead := len(lines)
	for _, n := range d.Nodes {
		var options []string
		for _, g := range n.Groups {
			options = append(options, "group="+g)
		}
		if n.Inline {
			options = append(options, "inline")
		}
		if n.Pick {
			options = append(options, "pick")
		}
		options = append(append(options, numbered("attr=", n.Attr)...), listed("marks=", n.All, n.Marks)...)
		end := ""
		if !n.Leaf {
			end = strings.TrimSuffix(" : "+n.Expr, " ")
		}
		lay("node "+n.Name, options, end)
	}
	// Marks and nodes may stand in any order, if each keep theirs.
	mixed := ""
	for marks, nodes := lines[:ahead], lines[ahead:]; len(marks)+len(nodes) > 0; {
		from := &nodes
		if len(nodes) == 0 || len(marks) > 0 && chance.IntN(2) == 0 {
			from = &marks
		}
		mixed += strings.Repeat("\n", chance.IntN(2)) + (*from)[0] + "\n"
		*from = (*from)[1:]
	}
	return mixed, strings.Join(append(shown, ""), "\n")
}

func numbered(head string, n int) []string {
	if n == 0 {
		return nil
	}
	return []string{head + strconv.Itoa(n)}
}

func listed(head string, all bool, names []string) []string {
	switch {
	case all:
		return []string{head + "*"}
	case len(names) == 0:
		return nil
	}
	return []string{head + strings.Join(names, ",")}
}

// P10.1, P10.2, P10.3: there and back, by chance.
func TestByChance(t *testing.T) {
	chance := rand.New(rand.NewPCG(10, 3))
	var count [2]int
	for range 20000 {
		d := byChance(chance)
		if !may(d) {
			if count[0]++; Show(d) != "" {
				t.Fatalf("Show(%+v) = %q", d, Show(d))
			}
			continue
		}
		count[1]++
		text, shown := written(chance, d)
		told, at, e := Parse(text)
		if at != 0 || e != api.OK || !Same(told, d) {
			t.Fatalf("Parse(%q) = %+v, %d, %v, not %+v", text, told, at, e, d)
		}
		if Show(told) != shown || Show(d) != shown {
			t.Fatalf("Show(%+v) = %q, not %q", d, Show(d), shown)
		}
		if back, at, e := Parse(shown); at != 0 || e != api.OK || !Same(back, d) {
			t.Fatalf("Parse(%q) = %+v, %d, %v", shown, back, at, e)
		}
	}
	if min(count[0], count[1]) < 2000 {
		t.Error(count)
	}
}

// P10.3: texts with something changed by chance, as far as they are parsed, are shown and parsed as they were.
func TestChanged(t *testing.T) {
	chance := rand.New(rand.NewPCG(10, 1))
	var count [2]int
	for range 20000 {
		d := byChance(chance)
		for !may(d) {
			d = byChance(chance)
		}
		text, _ := written(chance, d)
		b := []byte(text)
		for range 1 + chance.IntN(8)/7 {
			at := chance.IntN(len(b) + 1)
			piece := []string{" ", "\n", "a", "0", ",", "=", "*", ":", "|", "(a)", " pick", " a", "\x00", "mark", " group=c", "", "x", "7", "b", "", "1"}[chance.IntN(21)]
			b = slices.Replace(b, at, min(at+chance.IntN(2), len(b)), []byte(piece)...)
		}
		d, at, e := Parse(string(b))
		if e != api.OK {
			if count[0]++; at < 1 || at > strings.Count(string(b), "\n")+1 || d.Nodes != nil || d.Marks != nil {
				t.Fatalf("Parse(%q) = %+v, %d, %v", b, d, at, e)
			}
			continue
		}
		count[1]++
		if back, _, f := Parse(Show(d)); f != api.OK || at != 0 || !may(d) || !Same(back, d) {
			t.Fatalf("Parse(%q) = %+v, shown as %q", b, d, Show(d))
		}
	}
	if min(count[0], count[1]) < 1000 {
		t.Error(count)
	}
}

// P3, P6: what is handed in stays, room behind lists' ends too; answers share nothing; the same each time.
func TestAgain(t *testing.T) {
	const text = "node a group=g group=h marks=m,n : a*\nnode b marks=n,m\nmark m bars=n,m\nmark n bars=m\n"
	d, _, _ := Parse(text)
	was := Show(d)
	lists := []*[]string{&d.Nodes[0].Groups, &d.Nodes[0].Marks, &d.Nodes[1].Marks, &d.Marks[0].Bars, &d.Marks[1].Bars}
	for _, l := range lists {
		_ = append(*l, "x", "x", "x", "x")
	}
	if Show(d) != was {
		t.Error(Show(d))
	}
	for _, l := range lists {
		(*l)[0] = "x"
	}
	d.Nodes[0].Name, d.Marks[0].Name = "x", "x"
	if again, _, _ := Parse(text); Show(again) != was || Same(again, d) {
		t.Error(again)
	}
	groups := []string{"b", "c", "x", "x"}
	nodes := []Node{{Name: "a", Groups: groups[:2], Marks: groups[:1], Leaf: true}, {Name: "x"}}
	marks := []Mark{{Name: "m", Bars: groups[:2]}, {Name: "x"}}
	one := Decl{Nodes: nodes[:1], Marks: marks[:1]}
	for range 2 {
		if s := Show(one); s != "mark m bars=b,c\nnode a group=b group=c marks=b\n" || !Same(one, one) {
			t.Errorf("%q", s)
		}
	}
	if !slices.Equal(groups, []string{"b", "c", "x", "x"}) || nodes[1].Name != "x" || marks[1].Name != "x" {
		t.Error(groups, nodes, marks)
	}
}
