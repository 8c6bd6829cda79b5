package expr

import (
	"math/rand/v2"
	"regexp"
	"slices"
	"strconv"
	"strings"
	"testing"

	"stet/api"
	"stet/lex"
)

// name, row, choice and times are parts.
func name(s string) Part       { return Part{Kind: Name, Name: s} }
func row(kids ...int) Part     { return Part{Kind: Row, Kids: kids} }
func choice(kids ...int) Part  { return Part{Kind: Choice, Kids: kids} }
func times(l, h, kid int) Part { return Part{Kind: Times, Low: l, High: h, Kids: []int{kid}} }

// P6.1, P6.2: texts, their parts, and how they are shown.
func TestParse(t *testing.T) {
	a, b, c := name("a"), name("b"), name("c")
	for _, x := range []struct {
		text, shown string
		want        Expr
	}{
		{"", "", nil},
		{"  ", "", nil},
		{"a", "a", Expr{a}},
		{" ( (a) )", "a", Expr{a}},
		{"a b", "a b", Expr{a, b, row(0, 1)}},
		{"a b c", "a b c", Expr{a, b, c, row(0, 1, 2)}},
		{"a|b|c", "a | b | c", Expr{a, b, c, choice(0, 1, 2)}},
		{"a b|c", "a b | c", Expr{a, b, row(0, 1), c, choice(2, 3)}},
		{"(a b)|(c)", "a b | c", Expr{a, b, row(0, 1), c, choice(2, 3)}},
		{"a|b c", "a | b c", Expr{a, b, c, row(1, 2), choice(0, 3)}},
		{"a (b | c)+", "a ( b | c )+", Expr{a, b, c, choice(1, 2), times(1, -1, 3), row(0, 4)}},
		{"(a|b) c", "( a | b ) c", Expr{a, b, choice(0, 1), c, row(2, 3)}},
		{"(a|b)|c", "( a | b ) | c", Expr{a, b, choice(0, 1), c, choice(2, 3)}},
		{"a|((b|c))", "a | ( b | c )", Expr{a, b, c, choice(1, 2), choice(0, 3)}},
		{"(a b) c", "( a b ) c", Expr{a, b, row(0, 1), c, row(2, 3)}},
		{"a (b c)", "a ( b c )", Expr{a, b, c, row(1, 2), row(0, 3)}},
		{"a*", "a*", Expr{a, times(0, -1, 0)}},
		{"(a)*", "a*", Expr{a, times(0, -1, 0)}},
		{"(a*)", "a*", Expr{a, times(0, -1, 0)}},
		{"(a+)*", "( a+ )*", Expr{a, times(1, -1, 0), times(0, -1, 1)}},
		{"((a{2,3})?){4}", "( ( a{2,3} )? ){4}", Expr{a, times(2, 3, 0), times(0, 1, 1), times(4, 4, 2)}},
		{"(a b){2}", "( a b ){2}", Expr{a, b, row(0, 1), times(2, 2, 2)}},
		{"(a|b){0,2}", "( a | b ){0,2}", Expr{a, b, choice(0, 1), times(0, 2, 2)}},
		{"a* b?", "a* b?", Expr{a, times(0, -1, 0), b, times(0, 1, 2), row(1, 3)}},
		{"a*|(b?)", "a* | b?", Expr{a, times(0, -1, 0), b, times(0, 1, 2), choice(1, 3)}},
		{"a a (a)", "a a a", Expr{a, a, a, row(0, 1, 2)}},
	} {
		e, at, f := Parse(x.text)
		if !Same(e, x.want) || at != 0 || f != api.OK {
			t.Errorf("Parse(%q) = %v, %d, %v", x.text, e, at, f)
		}
		if s := Show(x.want); s != x.shown || !Right(x.want) {
			t.Errorf("Show(%v) = %q", x.want, s)
		}
	}
}

// P6.1: lex's error ahead of all others, else the first sign that may not stand where it does, else what is missing.
func TestParseWrong(t *testing.T) {
	for _, x := range []struct {
		text string
		at   int
		want api.Errno
	}{
		{"a A", 2, api.ErrForm}, {"| A", 2, api.ErrForm}, {") a{", 4, api.ErrEnd}, {") a{0}", 4, api.ErrRange}, {"|" + strings.Repeat("a ", 200), 399, api.ErrLong},
		{"|", 0, api.ErrForm}, {")", 0, api.ErrForm}, {"* a", 0, api.ErrForm}, {" {2}", 1, api.ErrForm}, {"()", 1, api.ErrForm}, {"(|a)", 1, api.ErrForm}, {"( *)", 2, api.ErrForm},
		{"a)", 1, api.ErrForm}, {"a b) c(", 3, api.ErrForm}, {"(a))", 3, api.ErrForm}, {"a+*", 2, api.ErrForm}, {"(a+ {2})", 4, api.ErrForm}, {"a||b", 2, api.ErrForm}, {"a|*", 2, api.ErrForm}, {"a (b|) c", 5, api.ErrForm}, {"a|b|) (", 4, api.ErrForm}, {"(a b |  ) |", 8, api.ErrForm},
		{"(", 1, api.ErrEnd}, {"(a", 2, api.ErrEnd}, {"(a ", 3, api.ErrEnd}, {"(a) (b|c* ", 10, api.ErrEnd}, {"((a)", 4, api.ErrEnd}, {"a|", 2, api.ErrEnd}, {"a |  ", 5, api.ErrEnd}, {"a (", 3, api.ErrEnd}, {"(a|", 3, api.ErrEnd},
	} {
		if e, at, f := Parse(x.text); e != nil || at != x.at || f != x.want {
			t.Errorf("Parse(%q) = %v, %d, %v, not %d, %v", x.text, e, at, f, x.at, x.want)
		}
	}
}

// P6.1: the most brackets that a text may have.
func TestDeep(t *testing.T) {
	e, _, f := Parse(strings.Repeat("(", 99) + "a" + strings.Repeat(")", 99) + "+")
	if f != api.OK || !Same(e, Expr{name("a"), times(1, -1, 0)}) {
		t.Error(e, f)
	}
	if _, at, f := Parse(strings.Repeat("(", 200)); at != 200 || f != api.ErrEnd {
		t.Error(at, f)
	}
}

var (
	counted  = regexp.MustCompile(`a\*`)
	brackets = regexp.MustCompile(`\([ab]+(\|[ab]+)*\)`)
	whole    = regexp.MustCompile(`^([ab]+(\|[ab]+)*)?$`)
)

// reduced tells by a way of its own whether a text of a, |, (, ) and * is an expression: what is in brackets is an item like any other.
func reduced(s string) bool {
	for {
		next := brackets.ReplaceAllString(counted.ReplaceAllString(s, "b"), "a")
		if next == s {
			return whole.MatchString(s)
		}
		s = next
	}
}

// begins tells whether something may be laid behind a text so that it is an expression.
func begins(s string) bool {
	shut := strings.Repeat(")", strings.Count(s, "("))
	for i := range len(shut) + 1 {
		if reduced(s+shut[i:]) || reduced(s+"a"+shut[i:]) {
			return true
		}
	}
	return false
}

// P6.1: all small texts.
func TestSmallTexts(t *testing.T) {
	level := []string{""}
	for range 7 {
		var longer []string
		for _, s := range level {
			e, at, f := Parse(strings.Join(strings.Split(s, ""), " "))
			wantAt, want := 0, api.OK
			if !reduced(s) {
				wantAt, want = 2*len(s)-1, api.ErrEnd
				for i := len(s); i > 0 && !begins(s[:i]); i-- {
					wantAt, want = 2*(i-1), api.ErrForm
				}
			}
			if at != wantAt || f != want || f != api.OK && e != nil || f == api.OK && !Right(e) {
				t.Fatalf("Parse(%q) = %v, %d, %v, not %d, %v", s, e, at, f, wantAt, want)
			}
			for _, c := range []string{"a", "|", "(", ")", "*"} {
				longer = append(longer, s+c)
			}
		}
		level = longer
	}
}

// byChance is an expression's parts by chance.
func byChance(chance *rand.Rand, deep int) Expr {
	kind := Name
	if deep > 0 {
		kind = 1 + chance.IntN(4)
	}
	var e Expr
	var kids []int
	lay := func(count int) {
		for range count {
			for _, p := range byChance(chance, deep-1) {
				for i := range p.Kids {
					p.Kids[i] += behind(kids)
				}
				e = append(e, p)
			}
			kids = append(kids, len(e)-1)
		}
	}
	switch kind {
	case Name:
		return Expr{name("abcxyz"[chance.IntN(6):][:1])}
	case Times:
		lay(1)
		counts := [][2]int{{0, -1}, {1, -1}, {0, 1}, {2, 2}, {1, 3}, {2, -1}, {0, 2}}
		n := counts[chance.IntN(len(counts))]
		return append(e, times(n[0], n[1], kids[0]))
	}
	lay(2 + chance.IntN(2))
	return append(e, Part{Kind: kind, Kids: kids})
}

// behind is the place behind the last one of the kids.
func behind(kids []int) int {
	if len(kids) == 0 {
		return 0
	}
	return kids[len(kids)-1] + 1
}

// meant is a pattern of the library with an expression's meaning, each part in brackets.
func meant(e Expr, part int) string {
	var kids []string
	for _, kid := range e[part].Kids {
		kids = append(kids, "(?:"+meant(e, kid)+")")
	}
	switch e[part].Kind {
	case Row:
		return strings.Join(kids, "")
	case Choice:
		return strings.Join(kids, "|")
	case Times:
		high := ""
		if e[part].High >= 0 {
			high = strconv.Itoa(e[part].High)
		}
		return kids[0] + "{" + strconv.Itoa(e[part].Low) + "," + high + "}"
	}
	return e[part].Name
}

// P6.2, P6.4: expressions by chance are right, shown, and parsed as they were; and their texts mean to the library what their parts do.
func TestThereAndBack(t *testing.T) {
	chance := rand.New(rand.NewPCG(6, 4))
	for range 3000 {
		e := byChance(chance, chance.IntN(4))
		s := Show(e)
		if l, _, _ := lex.Lex(s); len(l) == 0 {
			continue // more signs than a text may have
		}
		back, at, f := Parse(s)
		if !Right(e) || f != api.OK || at != 0 || !Same(e, back) || Show(back) != s {
			t.Fatalf("%v: %q, %v, %v", e, s, back, f)
		}
		plain, err := regexp.Compile("^(" + strings.ReplaceAll(s, " ", "") + ")$")
		whole, err2 := regexp.Compile("^(" + meant(e, len(e)-1) + ")$")
		if err != nil || err2 != nil {
			continue // the library bounds how often a count is counted
		}
		for range 30 {
			word := ""
			for range chance.IntN(7) {
				word += "abcxyz"[chance.IntN(6):][:1]
			}
			if plain.MatchString(word) != whole.MatchString(word) {
				t.Fatalf("%v: %q, of %q", e, s, word)
			}
		}
	}
}

// P6.2: what isn't an expression's isn't right, and isn't shown.
func TestNotRight(t *testing.T) {
	a, b := name("a"), name("b")
	for i, e := range []Expr{
		{{}}, {{Kind: 5, Name: "a"}}, {{Kind: -1}}, {{Name: "a"}},
		{name("")}, {name("A")}, {name("1a")}, {name("a ")}, {name(" a")}, {name("a b")}, {name("abcdefghijklm")}, {name("a*")}, {name("*")}, {name("(")}, {name("a\x00")}, {name("\xff")},
		{{Kind: Name, Name: "a", Low: 1}}, {{Kind: Name, Name: "a", High: 1}}, {{Kind: Name, Name: "a", High: -1}}, {{Kind: Name, Name: "a", Kids: []int{0}}}, {a, {Kind: Name, Name: "b", Kids: []int{0}}},
		{a, b}, {a, b, row(0, 1), a}, {a, b, row(0, 1), a, b}, {a, a, times(0, -1, 1)},
		{row()}, {choice()}, {a, row(0)}, {a, choice(0)}, {{Kind: Times, High: -1}}, {a, b, {Kind: Times, High: -1, Kids: []int{0, 1}}},
		{row(0, 0)}, {a, row(0, 0)}, {a, row(0, 1)}, {row(1, 2), a, b}, {a, b, row(1, 0)}, {a, b, row(0, 0)}, {a, b, row(1, 1)}, {a, b, row(0, 1, 1)}, {a, b, row(0, 2)}, {a, b, row(-1, 0)}, {a, b, row(0, 1<<62)}, {a, b, row(-1<<63, 1)}, {times(0, -1, 0)}, {times(0, -1, 1), a}, {a, times(0, -1, 1)},
		{a, b, a, choice(0, 2)}, {a, b, a, row(0, 1), choice(2, 3)}, {a, b, a, row(0, 2), choice(1, 3)}, {a, b, row(0, 1), a, row(0, 2, 3)},
		{a, b, {Kind: Row, Kids: []int{0, 1}, Low: 1}}, {a, b, {Kind: Row, Kids: []int{0, 1}, High: -1}}, {a, b, {Kind: Row, Kids: []int{0, 1}, Name: "a"}}, {a, b, {Kind: Choice, Kids: []int{0, 1}, Low: 1}}, {a, b, {Kind: Choice, Kids: []int{0, 1}, High: 1}}, {a, b, {Kind: Choice, Kids: []int{0, 1}, Name: "a"}},
		{a, {Kind: Times, High: -1, Kids: []int{0}, Name: "a"}}, {a, times(0, 0, 0)}, {a, times(-1, -1, 0)}, {a, times(-1, 1, 0)}, {a, times(21, -1, 0)}, {a, times(21, 21, 0)}, {a, times(1, 21, 0)}, {a, times(3, 2, 0)}, {a, times(1, 0, 0)}, {a, times(0, -2, 0)}, {a, times(100, 100, 0)}, {a, times(1<<63-1, -1<<63, 0)},
		{name("A"), b, row(0, 1)}, {a, times(0, 0, 0), b, row(1, 2)},
	} {
		if Right(e) || Show(e) != "" {
			t.Errorf("%d: %v is right, and shown as %q", i, e, Show(e))
		}
	}
}

// P6.2: the bounds that hold for counts and names, and none for how many parts there are.
func TestRight(t *testing.T) {
	for low := -2; low < 24; low++ {
		for high := -3; high < 24; high++ {
			want := low >= 0 && low <= 20 && (high == -1 || high >= 1 && high <= 20 && high >= low)
			if Right(Expr{name("a"), times(low, high, 0)}) != want {
				t.Errorf("a count %d to %d", low, high)
			}
		}
	}
	for _, n := range []string{"a", "z", "a0", "z9", "abcdefghijkl", "a23456789012"} {
		if !Right(Expr{name(n)}) {
			t.Error(n)
		}
	}
	var many Expr
	var kids []int
	for i := range 1000 {
		many, kids = append(many, name("a")), append(kids, i)
	}
	many = append(many, row(kids...))
	if !Right(many) || Show(many) != strings.Repeat("a ", 999)+"a" {
		t.Error("a row of a thousand")
	}
	deep := Expr{name("a")}
	for i := range 60000 {
		deep = append(deep, times(0, -1, i))
	}
	if s := Show(deep); !Right(deep) || s != strings.Repeat("( ", 59999)+"a*"+strings.Repeat(" )*", 59999) {
		t.Error("a count of counts", len(s))
	}
	if !Right(nil) || !Right(Expr{}) || Show(nil) != "" || !Right(Expr{{Kind: Name, Name: "a", Kids: []int{}}}) {
		t.Error("nothing")
	}
}

// inBrackets is a text of an expression with all the brackets that may stand; none, if parts are missing.
func inBrackets(e Expr, part int) string {
	var kids []string
	for _, kid := range e[part].Kids {
		if kid < 0 || kid >= part {
			return ""
		}
		kids = append(kids, inBrackets(e, kid))
	}
	s := e[part].Name
	switch e[part].Kind {
	case Row:
		s = strings.Join(kids, " ")
	case Choice:
		s = strings.Join(kids, "|")
	case Times:
		s = strings.Join(kids, " ") + lex.Show([]lex.Sign{{Kind: lex.Times, Low: e[part].Low, High: e[part].High}})
	}
	return "(" + s + ")"
}

// P6.2: parts with something changed by chance are right just if a text has them.
func TestChanged(t *testing.T) {
	chance := rand.New(rand.NewPCG(6, 2))
	count := [2]int{}
	for range 20000 {
		e := byChance(chance, 1+chance.IntN(2))
		for range 1 + chance.IntN(2) {
			i, n := chance.IntN(len(e)), chance.IntN(4)-1
			switch p := &e[i]; chance.IntN(6) {
			case 0:
				p.Kind += n
			case 1:
				p.Low += n
			case 2:
				p.High += n
			case 3:
				p.Name = []string{"", "b", "B", "b c"}[n+1]
			case 4:
				if len(p.Kids) > 0 {
					p.Kids[chance.IntN(len(p.Kids))] += n
				}
			case 5:
				e = slices.Delete(e, i, min(i+max(n, 0), len(e)))
				if len(e) == 0 {
					e = Expr{name("a")}
				}
			}
		}
		back, _, f := Parse(inBrackets(e, len(e)-1))
		want := f == api.OK && Same(back, e)
		if Right(e) != want {
			t.Fatalf("%v is right: %v", e, !want)
		}
		if want {
			count[1]++
		} else {
			count[0]++
		}
	}
	if min(count[0], count[1]) < 2000 {
		t.Error(count)
	}
}

// P6.3: names, each once, in order of their parts.
func TestNames(t *testing.T) {
	for text, want := range map[string][]string{
		"":                  nil,
		"b":                 {"b"},
		"b (a|b) c a":       {"b", "a", "c"},
		"(a*|b)+ a{2} c1 c": {"a", "b", "c1", "c"},
	} {
		e, _, _ := Parse(text)
		if l := Names(e); !slices.Equal(l, want) {
			t.Errorf("Names(%q) = %q", text, l)
		}
	}
	if l := Names(Expr{name("b"), {Kind: Row, Name: "x"}, name("a"), name("b")}); !slices.Equal(l, []string{"b", "a"}) {
		t.Error(l)
	}
}

// P6.3: the same, part by part.
func TestSame(t *testing.T) {
	made := func() Expr { return Expr{name("a"), times(1, 2, 0), name("b"), row(1, 2)} }
	if !Same(made(), made()) || !Same(nil, Expr{}) || !Same(Expr{{Kids: nil}}, Expr{{Kids: []int{}}}) {
		t.Error("what is the same isn't")
	}
	for i, change := range []func(e Expr) Expr{
		func(e Expr) Expr { e[0].Kind = 2; return e },
		func(e Expr) Expr { e[1].Low = 0; return e },
		func(e Expr) Expr { e[1].High = 3; return e },
		func(e Expr) Expr { e[2].Name = "c"; return e },
		func(e Expr) Expr { e[3].Kids[1] = 1; return e },
		func(e Expr) Expr { e[3].Kids = e[3].Kids[:1]; return e },
		func(e Expr) Expr { e[3].Kids = append(e[3].Kids, 2); return e },
		func(e Expr) Expr { return e[:3] },
		func(e Expr) Expr { return append(e, name("c")) },
		func(e Expr) Expr { e[0], e[2] = e[2], e[0]; return e },
		func(Expr) Expr { return nil },
	} {
		if Same(made(), change(made())) || Same(change(made()), made()) {
			t.Errorf("change %d isn't seen", i)
		}
	}
}
