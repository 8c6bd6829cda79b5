package dfa

import (
	"math/rand/v2"
	"slices"
	"strconv"
	"strings"
	"testing"

	"stet/api"
	"stet/bag"
	"stet/expr"
	"stet/nfa"
)

// meant is what names mean in these tests: a letter the symbol of its number, others what stands here.
func meant(name string) bag.Bag {
	switch name {
	case "both":
		return bag.Of(1, 2)
	case "low":
		return bag.Of(0)
	case "high":
		return bag.Of(31)
	case "wide":
		return bag.Of(0, 31, 32, 255)
	case "out":
		return bag.Of(32, 33, 255)
	}
	return bag.Of(int(name[0]-'a') + 1)
}

// netOf is a text's net.
func netOf(t testing.TB, s string) *nfa.Net {
	t.Helper()
	e, _, f := expr.Parse(s)
	if f != api.OK {
		t.Fatalf("%q: %v", s, f)
	}
	n, f := nfa.New(e, meant)
	if f != api.OK {
		t.Fatalf("%q: %v", s, f)
	}
	return n
}

// tableOf is a text's table.
func tableOf(t testing.TB, s string) *Table {
	t.Helper()
	x, f := New(netOf(t, s))
	if f != api.OK || x == nil {
		t.Fatalf("%q: %v", s, f)
	}
	return x
}

// told is all that a table tells, as a text: of each state, whether it accepts, and by which symbol comes which one.
func told(x *Table) string {
	var l []string
	for state := range x.States() {
		s := ""
		if x.Accepts(state) {
			s = "!"
		}
		for symbol := range 32 {
			if next, ok := x.Next(state, symbol); ok {
				s += " " + strconv.Itoa(symbol) + ":" + strconv.Itoa(next)
			}
		}
		l = append(l, s)
	}
	return strings.Join(l, ",")
}

// P8.1, P8.2: states as they are numbered, what is behind them, and which of them accept.
func TestStates(t *testing.T) {
	for _, x := range []struct{ text, want string }{
		{"", "!"},
		{"a", " 1:1,!"},
		{"a?", "! 1:1,!"},
		{"a*", "! 1:1,! 1:1"},
		{"a+", " 1:1,! 1:1"},
		{"a* b", " 1:1 2:2, 1:1 2:2,!"},
		{"b a", " 2:1, 1:2,!"},
		{"b|a", " 1:1 2:2,!,!"},
		{"a b|b a", " 1:1 2:2, 2:3, 1:4,!,!"},
		{"a{1,3}", " 1:1,! 1:2,! 1:3,!"},
		{"a{2,}", " 1:1, 1:2,! 1:2"},
		{"(a|b)*", "! 1:1 2:2,! 1:1 2:2,! 1:1 2:2"},
		{"both", " 1:1 2:1,!"},
		{"both a|both b", " 1:1 2:1, 1:2 2:3,!,!"},
		{"both* a", " 1:1 2:2,! 1:1 2:2, 1:1 2:2"},
		{"wide", " 0:1 31:1,!"},
		{"low high|high low", " 0:1 31:2, 31:3, 0:4,!,!"},
		{"out", ""},
		{"out?", "!"},
		{"out* a", " 1:1,!"},
		{"a out|b", " 1:1 2:2,,!"},
		{"a|a a", " 1:1,! 1:2,!"},
		{"c|d b|c b", " 3:1 4:2,! 2:3, 2:4,!,!"},
	} {
		y := tableOf(t, x.text)
		if s := told(y); s != x.want || y.States() != strings.Count(x.want, ",")+1 {
			t.Errorf("%q: %d states, %q, not %q", x.text, y.States(), s, x.want)
		}
	}
}

// P8.1: as many states as may be, and more.
func TestFull(t *testing.T) {
	for text, want := range map[string]int{
		"(a{20}){9} a{18}":                    199,
		"(a{20}){9} a{19}":                    200,
		"(a{20}){9} a{19,}":                   200,
		"(a{20}){10}":                         0,
		"(a{20}){0,9} a{0,20}":                0,
		"(a{20}){12}":                         0,
		"(a|b)* a (a|b){7}":                   0,
		"(out{20}){12}":                       1,
		"(a{20}){9} a{19} (out{9}|out a{20})": 200,
	} {
		x, f := New(netOf(t, text))
		switch {
		case want == 0:
			if x != nil || f != api.ErrFull {
				t.Errorf("%q: %d states, %v", text, x.States(), f)
			}
		case f != api.OK || x.States() != want:
			t.Errorf("%q: %d states, %v, not %d", text, x.States(), f, want)
		}
	}
	x := tableOf(t, "(a{20}){9} a{19}")
	if at, ok := x.Run(0, slices.Repeat([]int{1}, 199)...); at != 199 || !ok || !x.Accepts(199) || x.Accepts(198) {
		t.Error(at, ok)
	}
}

// P8.2: of states and symbols that there are not.
func TestNone(t *testing.T) {
	x := tableOf(t, "a+ wide b")
	for _, n := range []int{-1 << 63, -1 << 32, -1, 4, 5, 32, 255, 256, 1 << 32, 1<<32 + 1, 1<<63 - 1} {
		if next, ok := x.Next(n, 1); next != 0 || ok {
			t.Errorf("Next(%d, 1) = %d, %v", n, next, ok)
		}
		if n != 4 && n != 5 {
			if next, ok := x.Next(1, n); next != 0 || ok {
				t.Errorf("Next(1, %d) = %d, %v", n, next, ok)
			}
			if at, ok := x.Run(0, 1, n); at != 0 || ok {
				t.Errorf("Run(0, 1, %d) = %d, %v", n, at, ok)
			}
		}
		if x.Accepts(n) || x.Symbols(n) != bag.Of() {
			t.Errorf("the state %d: %v, %v", n, x.Accepts(n), x.Symbols(n).List())
		}
		for _, word := range [][]int{nil, {1}, {1, 0, 2}} {
			if at, ok := x.Run(n, word...); at != 0 || ok {
				t.Errorf("Run(%d, %v) = %d, %v", n, word, at, ok)
			}
		}
	}
}

// P8.1, P8.2, P8.3: of nil.
func TestNil(t *testing.T) {
	if x, f := New(nil); x != nil || f != api.ErrNil {
		t.Error(x, f)
	}
	var x *Table
	for state := range 2 {
		next, ok := x.Next(state, 1)
		at, came := x.Run(state)
		if next != 0 || ok || at != 0 || came || x.Accepts(state) || x.Symbols(state) != bag.Of() {
			t.Error("a nil table tells something")
		}
	}
	if x.States() != 0 {
		t.Error(x.States())
	}
	if !Equal(nil, nil) || Equal(nil, tableOf(t, "")) || Equal(tableOf(t, "out"), nil) || Equal(tableOf(t, "a"), nil) {
		t.Error("Equal of nil")
	}
}

// P8.2: Run goes from any state, as far as the word.
func TestRun(t *testing.T) {
	x := tableOf(t, "a* b") // 0: 1:1 2:2, 1: 1:1 2:2, 2: none
	for i, r := range []struct {
		from int
		word []int
		want int
		ok   bool
	}{
		{0, nil, 0, true}, {1, nil, 1, true}, {2, []int{}, 2, true},
		{0, []int{1}, 1, true}, {0, []int{1, 1, 1, 2}, 2, true}, {1, []int{1, 2}, 2, true}, {0, []int{2}, 2, true},
		{2, []int{1}, 0, false}, {0, []int{2, 1}, 0, false}, {0, []int{1, 3}, 0, false}, {0, []int{1, 3, 2}, 0, false}, {1, []int{0}, 0, false},
	} {
		if at, ok := x.Run(r.from, r.word...); at != r.want || ok != r.ok {
			t.Errorf("%d: Run(%d, %v) = %d, %v", i, r.from, r.word, at, ok)
		}
	}
	room := []int{1, 2, 1, 9}
	if at, ok := x.Run(0, room[:2]...); at != 2 || !ok || !slices.Equal(room, []int{1, 2, 1, 9}) {
		t.Error(at, ok, room)
	}
}

// P8.2: Symbols are those by which there is a state behind, from 0 to 31.
func TestSymbols(t *testing.T) {
	x := tableOf(t, "(wide|c)+ both")
	for state, want := range []bag.Bag{bag.Of(0, 3, 31), bag.Of(0, 1, 2, 3, 31), bag.Of(0, 1, 2, 3, 31)} {
		if x.Symbols(state) != want {
			t.Errorf("Symbols(%d) = %v", state, x.Symbols(state).List())
		}
	}
	end, ok := x.Run(0, 3, 1)
	if !ok || !x.Accepts(end) || x.Symbols(end) != bag.Of() {
		t.Error(end, ok)
	}
}

// P8.3: what accepts the same words, be it by other states, and what doesn't.
func TestEqual(t *testing.T) {
	same := [][]string{
		{"a a*", "a+", "a* a", "a{1,}", "a|a a+", "a+|out a"},
		{"(a|b)*", "(a* b*)*", "both*", "(a|b|both)*", "(both{0,3})*"},
		{"", "out?", "out*", "(out a)*"},
		{"out", "out out", "a out", "out a|out b", "a b* out"},
		{"a b|a c", "a (b|c)"},
		{"b", "a out|b", "b|out|c b* out"},
		{"a{2,4}", "a a a? a?", "a a (a a?)?"},
		{"a*", "a{0,}", "(a*)*", "(a a)*|a (a a)*"},
		{"low|high", "wide", "high|low"},
		{"low*"},
		{"a|b", "both", "b|a"},
		{"(a b)* a", "a (b a)*"},
		{"a{19}"}, {"a{20}"}, {"a{18,20}", "a{18} (a|a a)?"},
	}
	for i, l := range same {
		for k, m := range same {
			for _, a := range l {
				for _, b := range m {
					if Equal(tableOf(t, a), tableOf(t, b)) != (i == k) {
						t.Errorf("%q and %q are equal: %v", a, b, i != k)
					}
				}
			}
		}
	}
}

// byChance is the text of an expression by chance, of these names.
func byChance(chance *rand.Rand, deep int, names ...string) string {
	kind := chance.IntN(4)
	if deep == 0 || kind == 0 {
		return names[chance.IntN(len(names))]
	}
	if kind == 1 {
		counts := []string{"*", "+", "?", "{2}", "{2,}", "{0,2}", "{1,3}"}
		return "(" + byChance(chance, deep-1, names...) + ")" + counts[chance.IntN(len(counts))]
	}
	var l []string
	for range 2 + chance.IntN(2) {
		l = append(l, byChance(chance, deep-1, names...))
	}
	return "(" + strings.Join(l, []string{" ", "|"}[kind-2]) + ")"
}

// worked is what told would say, worked out by lists of places; and how many states there would be.
func worked(n *nfa.Net) (string, int) {
	states := [][]int{{-1}} // -1 stands ahead of all places
	var l []string
	for at := 0; at < len(states); at++ {
		s := ""
		accepts := at == 0 && n.Empty()
		for _, place := range states[at] {
			accepts = accepts || place >= 0 && n.Ends().Has(place)
		}
		if accepts {
			s = "!"
		}
		for symbol := range 32 {
			var next []int
			for place := range n.Places() {
				for _, p := range states[at] {
					leads := p < 0 && n.First().Has(place) || p >= 0 && n.Behind(p).Has(place)
					if leads && n.On(place).Has(symbol) && !slices.Contains(next, place) {
						next = append(next, place)
					}
				}
			}
			if next == nil {
				continue
			}
			number := slices.IndexFunc(states, func(l []int) bool { return slices.Equal(l, next) })
			if number < 0 {
				number = len(states)
				states = append(states, next)
			}
			s += " " + strconv.Itoa(symbol) + ":" + strconv.Itoa(number)
		}
		l = append(l, s)
		if len(states) > 300 {
			break
		}
	}
	return strings.Join(l, ","), len(states)
}

// P8.1, P8.2, P8.4: tables by chance are as their sets of places say, and Run comes to where a word that fits ends.
func TestByChance(t *testing.T) {
	chance := rand.New(rand.NewPCG(8, 1))
	full := 0
	for range 3000 {
		s := byChance(chance, 1+chance.IntN(4), "a", "b", "c", "both", "low", "wide", "out")
		n := netOf(t, s)
		want, states := worked(n)
		x, f := New(n)
		if states > 200 {
			if full++; x != nil || f != api.ErrFull {
				t.Fatalf("%q: %d states, %v", s, x.States(), f)
			}
			continue
		}
		if f != api.OK || told(x) != want || x.States() != states {
			t.Fatalf("%q: %v, %q, not %q", s, f, told(x), want)
		}
		checkWords(t, chance, s, n, x)
	}
	for range 200 {
		s := "(a|b)* a (a|b|both){" + strconv.Itoa(1+chance.IntN(9)) + "} " + byChance(chance, 2, "a", "b", "both")
		n := netOf(t, s)
		want, states := worked(n)
		x, f := New(n)
		if states > 200 {
			full++
		}
		if states > 200 && (x != nil || f != api.ErrFull) || states <= 200 && (f != api.OK || told(x) != want) {
			t.Fatalf("%q: %d states, %v", s, states, f)
		}
	}
	if full < 20 {
		t.Error(full)
	}
}

// checkWords holds words by chance against what fits.
func checkWords(t *testing.T, chance *rand.Rand, s string, n *nfa.Net, x *Table) {
	t.Helper()
	for range 20 {
		var word []int
		at := 0
		for range chance.IntN(10) {
			symbol := []int{0, 1, 2, 3, 31}[chance.IntN(5)]
			if l := x.Symbols(at).List(); len(l) > 0 && chance.IntN(8) > 0 {
				symbol = l[chance.IntN(len(l))]
				at, _ = x.Next(at, symbol)
			}
			word = append(word, symbol)
		}
		end, ok := x.Run(0, word...)
		if n.Fits(word...) != (ok && x.Accepts(end)) {
			t.Fatalf("%q: %v fits: %v", s, word, n.Fits(word...))
		}
	}
}

// P8.3: tables by chance are equal just if they accept the same words, of all that are long enough to tell them apart.
func TestEqualByChance(t *testing.T) {
	chance := rand.New(rand.NewPCG(8, 3))
	var count [2]int
	for range 6000 {
		s := byChance(chance, 1+chance.IntN(2), "a", "b", "both", "out")
		r := byChance(chance, 1+chance.IntN(2), "a", "b", "both", "out")
		a, b := tableOf(t, s), tableOf(t, r)
		// Two states apart, of both tables and none, are told apart by a word shorter than there are of them.
		long := a.States() + b.States() + 1
		if long > 11 {
			continue
		}
		want := true
		for length := range long + 1 {
			for bits := range 1 << length {
				var word []int
				for i := range length {
					word = append(word, 1+bits>>i&1)
				}
				i, okI := a.Run(0, word...)
				k, okK := b.Run(0, word...)
				want = want && (okI && a.Accepts(i)) == (okK && b.Accepts(k))
			}
		}
		if Equal(a, b) != want || Equal(b, a) != want {
			t.Fatalf("%q and %q are equal: %v", s, r, !want)
		}
		if want {
			count[1]++
		} else {
			count[0]++
		}
	}
	if min(count[0], count[1]) < 100 {
		t.Error(count)
	}
}

// P4, P6: one net has one table, each time, and a table isn't changed by being asked.
func TestAgain(t *testing.T) {
	n := netOf(t, "(a|b)* a (both|c)+")
	x, _ := New(n)
	was := told(x)
	x.Run(0, 1, 2, 3)
	Equal(x, tableOf(t, "a"))
	y, f := New(n)
	if f != api.OK || told(x) != was || told(y) != was || !Equal(x, y) {
		t.Error(told(x), told(y), f)
	}
}
