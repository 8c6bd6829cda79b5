package nfa

import (
	"math/rand/v2"
	"regexp"
	"slices"
	"strconv"
	"strings"
	"testing"

	"stet/api"
	"stet/bag"
	"stet/expr"
)

// meant is what names mean in these tests: a letter the symbol of its number, two of them more than one.
func meant(name string) bag.Bag {
	switch name {
	case "both":
		return bag.Of(1, 2)
	case "all":
		return bag.Of(1, 2, 3, 255)
	case "edge":
		return bag.Of(0, 31, 32, 255)
	}
	return bag.Of(int(name[0]-'a') + 1)
}

// parsed is a text's parts.
func parsed(t testing.TB, s string) expr.Expr {
	t.Helper()
	e, _, f := expr.Parse(s)
	if f != api.OK {
		t.Fatalf("%q: %v", s, f)
	}
	return e
}

// netOf is a text's net.
func netOf(t testing.TB, s string) *Net {
	t.Helper()
	n, f := New(parsed(t, s), meant)
	if f != api.OK || n == nil {
		t.Fatalf("%q: %v", s, f)
	}
	return n
}

// told is all that a net tells of its places, as a text: how many, whether nothing fits, First, Ends, and each Behind.
func told(n *Net) string {
	show := func(b bag.Bag) string {
		var l []string
		for _, place := range b.List() {
			l = append(l, strconv.Itoa(place))
		}
		return "[" + strings.Join(l, " ") + "]"
	}
	empty := ""
	if n.Empty() {
		empty = " empty"
	}
	s := strconv.Itoa(n.Places()) + empty + " " + show(n.First()) + " " + show(n.Ends()) + ":"
	for place := range n.Places() {
		s += " " + show(n.Behind(place))
	}
	return s
}

// P7.2: what is told of the places, of each kind of parts, and of counts as they are written out.
func TestPlaces(t *testing.T) {
	for _, x := range []struct{ text, want string }{
		{"", "0 empty [] []:"},
		{"a", "1 [0] [0]: []"},
		{"a b", "2 [0] [1]: [1] []"},
		{"a|b", "2 [0 1] [0 1]: [] []"},
		{"a (b|c) a", "4 [0] [3]: [1 2] [3] [3] []"},
		{"a b|c a", "4 [0 2] [1 3]: [1] [] [3] []"},
		{"a{1,2} b*", "3 [0] [0 1 2]: [1 2] [2] [2]"},
		{"a?", "1 empty [0] [0]: []"},
		{"a*", "1 empty [0] [0]: [0]"},
		{"a+", "1 [0] [0]: [0]"},
		{"a{0,}", "1 empty [0] [0]: [0]"},
		{"a{1,}", "1 [0] [0]: [0]"},
		{"a{2,}", "2 [0] [1]: [1] [1]"},
		{"a{3,}", "3 [0] [2]: [1] [2] [2]"},
		{"a{1}", "1 [0] [0]: []"},
		{"a{3}", "3 [0] [2]: [1] [2] []"},
		{"a{0,1}", "1 empty [0] [0]: []"},
		{"a{0,3}", "3 empty [0] [0 1 2]: [1] [2] []"},
		{"a{2,4}", "4 [0] [1 2 3]: [1] [2] [3] []"},
		{"a{2,2}", "2 [0] [1]: [1] []"},
		{"(a b){2}", "4 [0] [3]: [1] [2] [3] []"},
		{"(a b){0,2}", "4 empty [0] [1 3]: [1] [2] [3] []"},
		{"(a b){2,}", "4 [0] [3]: [1] [2] [3] [2]"},
		{"(a|b){1,2}", "4 [0 1] [0 1 2 3]: [2 3] [2 3] [] []"},
		{"(a|b)+", "2 [0 1] [0 1]: [0 1] [0 1]"},
		{"(a b?)*", "2 empty [0] [0 1]: [0 1] [0]"},
		{"(a? b?){2}", "4 empty [0 1 2 3] [0 1 2 3]: [1 2 3] [2 3] [3] []"},
		{"(a? b?){2,}", "4 empty [0 1 2 3] [0 1 2 3]: [1 2 3] [2 3] [2 3] [2 3]"},
		{"(a?){1,3}", "3 empty [0 1 2] [0 1 2]: [1 2] [2] []"},
		{"a? b c?", "3 [0 1] [1 2]: [1] [2] []"},
		{"a b? c? a", "4 [0] [3]: [1 2 3] [2 3] [3] []"},
		{"a* b*", "2 empty [0 1] [0 1]: [0 1] [1]"},
		{"(a* b*)*", "2 empty [0 1] [0 1]: [0 1] [0 1]"},
		{"(a*)*", "1 empty [0] [0]: [0]"},
		{"(a{2}){2,3}", "6 [0] [3 5]: [1] [2] [3] [4] [5] []"},
		{"(a{1,2}){2}", "4 [0] [2 3]: [1 2] [2] [3] []"},
		{"a?|b c", "3 empty [0 1] [0 2]: [] [2] []"},
		{"a|a", "2 [0 1] [0 1]: [] []"},
	} {
		if s := told(netOf(t, x.text)); s != x.want {
			t.Errorf("%q: %s, not %s", x.text, s, x.want)
		}
	}
}

// P7.2: what a place is On is what its name means, each name where it stands.
func TestOn(t *testing.T) {
	n := netOf(t, "(both|a)+ edge{2} b")
	for i, want := range []bag.Bag{bag.Of(1, 2), bag.Of(1), bag.Of(0, 31, 32, 255), bag.Of(0, 31, 32, 255), bag.Of(2)} {
		if n.On(i) != want {
			t.Errorf("On(%d) = %v", i, n.On(i).List())
		}
	}
}

// P7.1: a net of nothing.
func TestNothing(t *testing.T) {
	for _, e := range []expr.Expr{nil, {}} {
		n, f := New(e, meant)
		if f != api.OK || n == nil || told(n) != "0 empty [] []:" || !n.Fits() || n.Fits(0) || n.Fits(1, 1) {
			t.Error(n, f)
		}
	}
}

// P7.2: of a place that there is not, and of nil.
func TestNoPlace(t *testing.T) {
	n := netOf(t, "a+ b{2}")
	for _, place := range []int{-1 << 63, -1, 3, 4, 255, 256, 1<<32 + 1, 1<<63 - 1} {
		if n.Behind(place) != bag.Of() || n.On(place) != bag.Of() {
			t.Error(place, n.Behind(place).List(), n.On(place).List())
		}
	}
	var none *Net
	for place := range 2 {
		if none.Behind(place) != bag.Of() || none.On(place) != bag.Of() {
			t.Error(place)
		}
	}
	if none.Places() != 0 || none.Empty() || none.First() != bag.Of() || none.Ends() != bag.Of() || none.Fits() || none.Fits(1) {
		t.Error("a nil net tells something")
	}
}

// P7.1: the errors, the first one of those that apply.
func TestWrong(t *testing.T) {
	nothing := func(string) bag.Bag { return bag.Bag{} }
	notB := func(name string) bag.Bag {
		if name == "b" {
			return bag.Of(-1, 256)
		}
		return meant(name)
	}
	full := parsed(t, "(a{20} b){13}")
	for i, x := range []struct {
		e     expr.Expr
		means func(string) bag.Bag
		want  api.Errno
	}{
		{nil, nil, api.ErrArg}, {parsed(t, "a"), nil, api.ErrArg}, {full, nil, api.ErrArg},
		{expr.Expr{{}}, meant, api.ErrArg}, {expr.Expr{{Kind: expr.Name, Name: "A"}}, nothing, api.ErrArg}, {append(parsed(t, "(b{20}){20}"), full[0]), nothing, api.ErrArg}, {expr.Expr{{Kind: expr.Row, Kids: []int{0, 1}}}, meant, api.ErrArg},
		{parsed(t, "a"), nothing, api.ErrNone}, {parsed(t, "a b? c"), notB, api.ErrNone}, {full, notB, api.ErrNone}, {full, nothing, api.ErrNone},
		{full, meant, api.ErrFull}, {parsed(t, "a|c*"), notB, api.OK}, {nil, nothing, api.OK},
	} {
		n, f := New(x.e, x.means)
		if f != x.want || (n == nil) != (x.want != api.OK) {
			t.Errorf("%d: %v, %v, not %v", i, n, f, x.want)
		}
	}
}

// P7.1: as many places as may be, and more.
func TestFull(t *testing.T) {
	for text, want := range map[string]int{
		"(a{16}){16}":                           256,
		"(a{16}){0,16}":                         256,
		"(a{16,}){15,} b{16}":                   256,
		"(a{16}){15} (b|c|a|b){4}":              256,
		"(a{20}){12} b{15,}":                    255,
		"(a{20}){12} b{17}":                     0,
		"(a{20,}){12,} b{0,17}":                 0,
		"(a{16}){16} b?":                        0,
		"(a{16}){16}|b*":                        0,
		"b ((a{16}){16})":                       0,
		"(((a{20}){20}){20}){20} b":             0,
		"((((a{0,20})*){20,}){0,20}){1,20}":     0,
		"(a{20}){0,} (b{20}){1,} c{0,} a{1,}":   42,
		"a{20,} (a{20}){5,} (a b){0,20} (b){4}": 164,
	} {
		n, f := New(parsed(t, text), meant)
		if want == 0 {
			if n != nil || f != api.ErrFull {
				t.Errorf("%q: %d places, %v", text, n.Places(), f)
			}
		} else if f != api.OK || n.Places() != want {
			t.Errorf("%q: %d places, %v, not %d", text, n.Places(), f, want)
		}
	}
	n := netOf(t, "(a{16}){15,} b{16}")
	if n.First() != bag.Of(0) || n.Ends() != bag.Of(255) || n.Behind(239) != bag.Of(224, 240) || n.Behind(254) != bag.Of(255) || n.Behind(255) != bag.Of() || n.On(239) != bag.Of(1) || n.On(240) != bag.Of(2) {
		t.Error(told(n))
	}
}

// P7.1: counts of counts, so many times that nobody could write them out.
func TestDeep(t *testing.T) {
	counted := func(deep, low, high int) expr.Expr {
		e := expr.Expr{{Kind: expr.Name, Name: "a"}}
		for i := range deep {
			e = append(e, expr.Part{Kind: expr.Times, Low: low, High: high, Kids: []int{i}})
		}
		return e
	}
	if n, f := New(counted(60000, 20, 20), meant); n != nil || f != api.ErrFull {
		t.Error(n.Places(), f)
	}
	if n, f := New(counted(60000, 0, -1), meant); f != api.OK || told(n) != "1 empty [0] [0]: [0]" || !n.Fits(1, 1, 1) {
		t.Error(n.Places(), f)
	}
	if n, f := New(counted(60000, 1, 1), meant); f != api.OK || told(n) != "1 [0] [0]: []" {
		t.Error(n.Places(), f)
	}
}

// P7.1: means is asked of the expression's names alone, of none if that isn't right, and not kept.
func TestMeans(t *testing.T) {
	var asked []string
	symbol := 1
	means := func(name string) bag.Bag {
		asked = append(asked, name)
		return bag.Of(symbol)
	}
	n, f := New(parsed(t, "a (b|c){2} a"), means)
	slices.Sort(asked)
	if asked = slices.Compact(asked); f != api.OK || !slices.Equal(asked, []string{"a", "b", "c"}) {
		t.Error(asked, f)
	}
	asked, symbol = nil, 2
	if !n.Fits(1, 1, 1, 1) || n.Fits(2, 2, 2, 2) || n.On(0) != bag.Of(1) || asked != nil {
		t.Error("means is asked behind New", asked)
	}
	New(expr.Expr{{Kind: expr.Name, Name: "a"}, {Kind: expr.Row, Kids: []int{0}}}, means)
	New(nil, means)
	if asked != nil {
		t.Error(asked)
	}
}

// P7.3: words that fit, and words that don't: each letter is a symbol.
func TestFits(t *testing.T) {
	for _, x := range []struct{ text, fit, miss string }{
		{"", ",", "a,b,aa"},
		{"a", "a", ",b,aa,ab,ba"},
		{"a b c", "abc", ",a,ab,abcc,acb,bc,aabc"},
		{"a|b", "a,b", ",ab,ba,c,aa"},
		{"a b|c", "ab,c", ",a,b,abc,ac"},
		{"a?", ",a", "aa,b"},
		{"a*", ",a,aa,aaaaaaaaaa", "b,ab,aaba"},
		{"a+", "a,aa,aaaaa", ",b,ab"},
		{"a{3}", "aaa", ",a,aa,aaaa"},
		{"a{2,}", "aa,aaa,aaaaaa", ",a,b,aab"},
		{"a{2,4}", "aa,aaa,aaaa", ",a,aaaaa"},
		{"a{0,2}", ",a,aa", "aaa,b"},
		{"a{1,2} b*", "a,aa,ab,aab,abbb", ",b,aaa,aba"},
		{"(a|b)* c", "c,ac,abbac", ",a,ab,cc,ca"},
		{"(a b){0,2} c", "c,abc,ababc", "ac,ab,abababc,bac"},
		{"(a? b?){2}", ",a,b,ab,ba,aa,bb,abab,aab", "aaa,bbb,babb,ababa"},
		{"(a b?){2,}", "aa,aab,abab,abaab", ",a,ab,abb,ba"},
		{"both b", "ab,bb", "a,b,ba,bc,cb"},
		{"(a both)*", ",ab,aa,abaa", "a,ba,aba"},
		{"(a|b){20}", strings.Repeat("ab", 10), strings.Repeat("a", 19) + "," + strings.Repeat("b", 21)},
	} {
		n := netOf(t, x.text)
		for want, words := range map[bool]string{true: x.fit, false: x.miss} {
			for _, w := range strings.Split(words, ",") {
				var word []int
				for _, c := range w {
					word = append(word, int(c-'a')+1)
				}
				if n.Fits(word...) != want {
					t.Errorf("%q: %q fits: %v", x.text, w, !want)
				}
			}
		}
	}
}

// P7.3: symbols at the bounds, and numbers that are none.
func TestSymbols(t *testing.T) {
	n := netOf(t, "edge+")
	for _, symbol := range []int{0, 31, 32, 255} {
		if !n.Fits(symbol) || !n.Fits(255, symbol, 0) {
			t.Error(symbol)
		}
	}
	for _, symbol := range []int{-1 << 63, -1, 1, 30, 33, 254, 256, 256 + 31, 1 << 32, 1<<32 + 31, 1<<63 - 1} {
		if n.Fits(symbol) || n.Fits(0, symbol) || n.Fits(symbol, 0) || netOf(t, "edge*").Fits(symbol) {
			t.Error(symbol)
		}
	}
}

// byChance is the text of an expression by chance.
func byChance(chance *rand.Rand, deep int) string {
	kind := chance.IntN(4)
	if deep == 0 || kind == 0 {
		return []string{"a", "b", "c", "both", "all"}[chance.IntN(5)]
	}
	if kind == 1 {
		counts := []string{"*", "+", "?", "{2}", "{0,}", "{2,}", "{0,2}", "{1,2}", "{1,3}", "{3,}", "{2,4}"}
		return "(" + byChance(chance, deep-1) + ")" + counts[chance.IntN(len(counts))]
	}
	var l []string
	for range 2 + chance.IntN(2) {
		l = append(l, byChance(chance, deep-1))
	}
	return "(" + strings.Join(l, []string{" ", "|"}[kind-2]) + ")"
}

// reached is where one comes to in a word by what a part says, from the places in it where one stands. It goes by what the words say, and knows nothing of places of an expression.
func reached(e expr.Expr, part int, word []int, from bag.Bag) bag.Bag {
	p := e[part]
	var to bag.Bag
	switch p.Kind {
	case expr.Name:
		for i := range from.All() {
			if i < len(word) && meant(p.Name).Has(word[i]) {
				to = to.With(i + 1)
			}
		}
	case expr.Row:
		to = from
		for _, kid := range p.Kids {
			to = reached(e, kid, word, to)
		}
	case expr.Choice:
		for _, kid := range p.Kids {
			to = to.Or(reached(e, kid, word, from))
		}
	case expr.Times:
		high := p.High
		if high < 0 {
			high = p.Low + len(word) + 1
		}
		for times := range high + 1 {
			if times >= p.Low {
				to = to.Or(from)
			}
			from = reached(e, p.Kids[0], word, from)
		}
	}
	return to
}

// P7.3: words by chance fit expressions by chance just if they go through what the parts say.
func TestFitsByChance(t *testing.T) {
	chance := rand.New(rand.NewPCG(7, 3))
	var count [2]int
	for range 1500 {
		s := byChance(chance, 1+chance.IntN(4))
		e := parsed(t, s)
		n, f := New(e, meant)
		if f == api.ErrFull {
			continue
		}
		for range 40 {
			word := wordOf(chance, n)
			want := reached(e, len(e)-1, word, bag.Of(0)).Has(len(word))
			if n.Fits(word...) != want {
				t.Fatalf("%q: %v fits: %v", s, word, !want)
			}
			if want {
				count[1]++
			} else {
				count[0]++
			}
		}
	}
	if min(count[0], count[1]) < 5000 {
		t.Error(count)
	}
}

// wordOf is a word by chance, mostly one that goes along a net's places.
func wordOf(chance *rand.Rand, n *Net) []int {
	var word []int
	at := n.First()
	for range chance.IntN(12) {
		symbol := chance.IntN(5)
		if l := at.List(); len(l) > 0 && chance.IntN(8) > 0 {
			place := l[chance.IntN(len(l))]
			on := n.On(place).List()
			symbol = on[chance.IntN(len(on))]
			at = n.Behind(place)
			word = append(word, symbol)
			if n.Ends().Has(place) && chance.IntN(3) == 0 {
				break
			}
			continue
		}
		word = append(word, symbol)
	}
	return word
}

// along tells whether a word goes along a net's places, one by one.
func along(n *Net, at bag.Bag, word []int) bool {
	for place := range at.All() {
		if !n.On(place).Has(word[0]) {
			continue
		}
		if len(word) == 1 && n.Ends().Has(place) || len(word) > 1 && along(n, n.Behind(place), word[1:]) {
			return true
		}
	}
	return false
}

// P7.4: a word fits just if it goes along the places, or is empty, and that fits.
func TestAlong(t *testing.T) {
	chance := rand.New(rand.NewPCG(7, 4))
	for range 500 {
		s := byChance(chance, 1+chance.IntN(3))
		n, f := New(parsed(t, s), meant)
		if f != api.OK {
			continue
		}
		for range 20 {
			word := wordOf(chance, n)
			want := n.Empty()
			if len(word) > 0 {
				want = along(n, n.First(), word)
			}
			if n.Fits(word...) != want {
				t.Fatalf("%q: %v fits: %v", s, word, !want)
			}
		}
	}
}

// written is a pattern of the library for an expression that is written out, each place a letter of its own from A on.
func written(e expr.Expr, part int, places *int) string {
	p := e[part]
	if p.Kind == expr.Name {
		*places++
		return string(rune('A' + *places - 1))
	}
	once := func() string {
		var l []string
		for _, kid := range p.Kids {
			l = append(l, "(?:"+written(e, kid, places)+")")
		}
		return strings.Join(l, map[int]string{expr.Choice: "|"}[p.Kind])
	}
	if p.Kind != expr.Times {
		return once()
	}
	s, shut := "", ""
	for i := range max(p.Low, p.High, 1) {
		if i >= p.Low {
			s, shut = s+"(?:", ")?"+shut
		}
		one := "(?:" + once() + ")"
		if p.High < 0 && i == max(p.Low-1, 0) {
			one += "+"
		}
		s += one
	}
	return s + shut
}

// tried is what told would say, found by trying all words of places that are long enough for any two places to meet in one.
func tried(pattern string, places int) string {
	whole := regexp.MustCompile("^(?:" + pattern + ")$")
	n := &Net{places: make([]entry, places)}
	n.whole.empty = whole.MatchString("")
	level := []string{""}
	for range 2 * places {
		var longer []string
		for _, w := range level {
			for i := range places {
				longer = append(longer, w+string(rune('A'+i)))
			}
		}
		for _, w := range longer {
			if !whole.MatchString(w) {
				continue
			}
			n.whole.first = n.whole.first.With(int(w[0] - 'A'))
			n.whole.ends = n.whole.ends.With(int(w[len(w)-1] - 'A'))
			for i := range len(w) - 1 {
				here := &n.places[w[i]-'A']
				here.behind = here.behind.With(int(w[i+1] - 'A'))
			}
		}
		level = longer
	}
	return told(n)
}

// P7.2: what is told of the places is what is found by trying.
func TestPlacesByChance(t *testing.T) {
	chance := rand.New(rand.NewPCG(7, 2))
	var count [5]int
	for range 4000 {
		s := byChance(chance, 1+chance.IntN(3))
		e := parsed(t, s)
		n, f := New(e, meant)
		if f != api.OK || n.Places() > 4 || count[n.Places()] > 80 {
			continue
		}
		places := 0
		pattern := written(e, len(e)-1, &places)
		count[places]++
		if want := tried(pattern, places); told(n) != want {
			t.Fatalf("%q: %s, not %s (%s)", s, told(n), want, pattern)
		}
	}
	if min(count[1], count[2], count[3], count[4]) < 50 {
		t.Error(count)
	}
}

// P3: what is handed in stays as it is, and isn't kept.
func TestHandedIn(t *testing.T) {
	e := parsed(t, "a (b|c){1,2}")
	n, _ := New(e, meant)
	was := told(n)
	if shown := expr.Show(e); shown != "a ( b | c ){1,2}" {
		t.Error(shown)
	}
	for i := range e {
		e[i].Kind, e[i].Name = 0, "x"
		for k := range e[i].Kids {
			e[i].Kids[k] = -1
		}
	}
	room := []int{1, 2, 3, 9, 9}
	if !n.Fits(room[:3]...) || n.Fits(room...) || told(n) != was || !slices.Equal(room, []int{1, 2, 3, 9, 9}) {
		t.Error(told(n), room)
	}
}
