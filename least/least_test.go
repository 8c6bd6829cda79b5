package least

import (
	"math/rand/v2"
	"slices"
	"strconv"
	"strings"
	"testing"

	"stet/api"
	"stet/bag"
	"stet/dfa"
	"stet/expr"
	"stet/nfa"
)

// meant is what names mean in these tests: a letter the symbol of its number, others what stands here.
func meant(name string) bag.Bag {
	switch name {
	case "ab":
		return bag.Of(0, 1)
	case "high":
		return bag.Of(31)
	case "out":
		return bag.Of(32, 255)
	}
	return bag.Of(int(name[0] - 'a'))
}

// tableOf is a text's table; nil, if it would have too many states.
func tableOf(t testing.TB, s string) *dfa.Table {
	t.Helper()
	e, _, f := expr.Parse(s)
	if f != api.OK {
		t.Fatalf("%q: %v", s, f)
	}
	n, f := nfa.New(e, meant)
	if f != api.OK {
		t.Fatalf("%q: %v", s, f)
	}
	x, f := dfa.New(n)
	if f != api.OK && f != api.ErrFull {
		t.Fatalf("%q: %v", s, f)
	}
	return x
}

// word is the symbols of a text's letters.
func word(s string) []int {
	var l []int
	for _, c := range s {
		l = append(l, int(c-'a'))
	}
	return l
}

// P9.1, P9.3: the cheapest word, of these the shortest one, of these the one with the lesser symbol where they differ first.
func TestWord(t *testing.T) {
	for _, x := range []struct {
		text   string
		prices []int
		want   string
		price  int
	}{
		{"a+ (b | c)", []int{1, 5, 2}, "ac", 3},
		{"", nil, "", 0},
		{"a*", nil, "", 0},
		{"a*", []int{0}, "", 0},
		{"a", []int{0}, "a", 0},
		{"a", []int{7}, "a", 7},
		{"a a a|b|c d?", []int{1, 4, 5, 0}, "aaa", 3},
		{"a a a|b|c d?", []int{1, 2, 3, 0}, "b", 2},
		{"a a a|b|c d?", []int{2, 7, 5, 0}, "c", 5},
		{"a a|b", []int{1, 2}, "b", 2},                // as cheap, shorter
		{"a a|b", []int{0, 0}, "b", 0},                // as cheap, shorter, for nothing
		{"a|b", []int{3, 3}, "a", 3},                  // as cheap, as long, lesser
		{"b|a", []int{3, 3}, "a", 3},                  // whichever stands ahead
		{"b|a", []int{3, 2}, "b", 2},                  // cheaper, not lesser
		{"b|a", []int{3, 4}, "a", 3},                  // cheaper, and lesser
		{"a d|b c", []int{1, 2, 3, 4}, "ad", 5},       // the first place where they differ, not the last one
		{"a c|b c|a b", []int{5, 1, 1}, "bc", 2},      // be the others lesser
		{"a c b|a b d", []int{5, 3, 3, 3}, "abd", 11}, // they differ behind a place where they don't
		{"a d|b a", []int{9, 1, 5, 1}, "ad", 10},      // the lesser one first, be it the dearer one
		{"(a b)+ c|d", []int{0, 0, 0, 1}, "abc", 0},
		{"c{3}|b{4}|a{5}", []int{12, 15, 20}, "ccc", 60},
		{"c{3}|b{4}|a{5}", []int{12, 15, 21}, "bbbb", 60},
		{"c{3}|b{4}|a{5}", []int{11, 14, 19}, "aaaaa", 55},
		{"c{3}|b{4}|a{5}", []int{12, 14, 20}, "bbbb", 56},
		{"b{20}|a", []int{1000000, 50000}, "a", 1000000},
		{"b{20}|a", []int{1000000, 49999}, "bbbbbbbbbbbbbbbbbbbb", 999980},
	} {
		y := tableOf(t, x.text)
		if w, p, ok := Word(y, 0, x.prices); !ok || p != x.price || !slices.Equal(w, word(x.want)) {
			t.Errorf("Word of %q by %v: %v, %d, %v, not %q, %d", x.text, x.prices, w, p, ok, x.want, x.price)
		}
	}
}

// P9.1: a symbol may be had, if its price is there, and from 0 to 10^6.
func TestPrices(t *testing.T) {
	y := tableOf(t, "a|b")
	for _, x := range []struct {
		prices []int
		want   string
		price  int
		ok     bool
	}{
		{nil, "", 0, false},
		{[]int{}, "", 0, false},
		{[]int{-1}, "", 0, false},
		{[]int{-1, -1}, "", 0, false},
		{[]int{1000001, 1<<63 - 1}, "", 0, false},
		{[]int{-1 << 63, 1 << 32}, "", 0, false},
		{[]int{0}, "a", 0, true},
		{[]int{1000000}, "a", 1000000, true},
		{[]int{1000001, 1000000}, "b", 1000000, true},
		{[]int{-1, 7}, "b", 7, true},
		{[]int{5, -9}, "a", 5, true},
		{[]int{6, 5, -1, 4}, "b", 5, true},
	} {
		w, p, ok := Word(y, 0, x.prices)
		if ok != x.ok || p != x.price || !slices.Equal(w, word(x.want)) || !ok && w != nil {
			t.Errorf("Word by %v: %v, %d, %v", x.prices, w, p, ok)
		}
		if l := Live(y, x.prices); !slices.Equal(l, []bool{x.ok, true, true}) {
			t.Errorf("Live by %v: %v", x.prices, l)
		}
	}
	high := slices.Repeat([]int{9}, 1000)
	if w, p, ok := Word(tableOf(t, "high|out high"), 0, high); !ok || p != 9 || !slices.Equal(w, []int{31}) {
		t.Error(w, p, ok)
	}
	if w, p, ok := Word(tableOf(t, "high"), 0, high[:31]); ok || w != nil || p != 0 {
		t.Error(w, p, ok)
	}
	if w, p, ok := Word(tableOf(t, "out"), 0, high); ok || w != nil || p != 0 {
		t.Error(w, p, ok)
	}
}

// P9.1: from any state, and to any state, be it one that accepts or not.
func TestBetween(t *testing.T) {
	y := tableOf(t, "a* b c|d") // 0: a1 b2 d3, 1: a1 b2, 2: c4, 3 and 4 accept
	prices := []int{0, 2, 5, 9}
	for _, x := range []struct {
		from, to int
		want     string
		price    int
		ok       bool
	}{
		{0, 0, "", 0, true}, {1, 1, "", 0, true}, {4, 4, "", 0, true},
		{0, 1, "a", 0, true}, {0, 2, "b", 2, true}, {0, 3, "d", 9, true}, {0, 4, "bc", 7, true},
		{1, 2, "b", 2, true}, {1, 4, "bc", 7, true}, {2, 4, "c", 5, true},
		{1, 0, "", 0, false}, {1, 3, "", 0, false}, {2, 1, "", 0, false}, {3, 4, "", 0, false}, {4, 2, "", 0, false},
		{-1, 0, "", 0, false}, {0, -1, "", 0, false}, {-1, -1, "", 0, false}, {5, 5, "", 0, false}, {0, 5, "", 0, false}, {1 << 32, 1 << 32, "", 0, false}, {1<<63 - 1, 4, "", 0, false}, {0, -1 << 63, "", 0, false},
	} {
		w, p, ok := Between(y, x.from, x.to, prices)
		if ok != x.ok || p != x.price || !slices.Equal(w, word(x.want)) || !ok && w != nil {
			t.Errorf("Between(%d, %d): %v, %d, %v", x.from, x.to, w, p, ok)
		}
	}
	for from, want := range map[int]string{0: "bc", 1: "bc", 2: "c", 3: "", 4: ""} {
		if w, _, ok := Word(y, from, prices); !ok || !slices.Equal(w, word(want)) {
			t.Errorf("Word(%d): %v, %v", from, w, ok)
		}
	}
	for _, from := range []int{-1 << 63, -1, 5, 1 << 32, 1<<63 - 1} {
		if w, p, ok := Word(y, from, prices); ok || w != nil || p != 0 {
			t.Errorf("Word(%d): %v, %d, %v", from, w, p, ok)
		}
	}
	if _, _, ok := Between(y, 0, 4, []int{1, 1, -1, 1}); ok {
		t.Error("a word of a symbol that may not be had")
	}
}

// P9.1, P9.2: of a nil table.
func TestNil(t *testing.T) {
	for _, at := range []int{-1, 0, 1} {
		if w, p, ok := Word(nil, at, []int{1}); w != nil || p != 0 || ok {
			t.Error(w, p, ok)
		}
		if w, p, ok := Between(nil, at, at, []int{1}); w != nil || p != 0 || ok {
			t.Error(w, p, ok)
		}
	}
	if l := Live(nil, []int{1}); len(l) != 0 {
		t.Error(l)
	}
}

// P9.2: states, in order.
func TestLive(t *testing.T) {
	y := tableOf(t, "a b|c (d|e out)|f* g") // 0: a1 c2 f3 g4, 1: b5, 2: d6 e7, 3: f3 g4, 4 accepts, 5, 6 accept, 7: none
	for _, x := range []struct {
		prices []int
		want   string
	}{
		{nil, "....!!!."},
		{[]int{0, 0}, "!!..!!!."},
		{[]int{-1, 0}, ".!..!!!."},
		{[]int{1, -1, 1, 1}, "!.!.!!!."},
		{[]int{1, -1, 1, -1, 1}, "....!!!."},
		{[]int{1, 1000001, 1, -1, 1, 1, 1000000}, "!..!!!!."},
		{slices.Repeat([]int{3}, 40), "!!!!!!!."},
	} {
		s := ""
		for _, live := range Live(y, x.prices) {
			s += map[bool]string{true: "!", false: "."}[live]
		}
		if s != x.want {
			t.Errorf("Live by %v: %s, not %s", x.prices, s, x.want)
		}
	}
}

// P9.1: the longest words that there may be.
func TestLong(t *testing.T) {
	y := tableOf(t, "(a{20}){9} a{19}")
	w, p, ok := Word(y, 0, []int{1000000})
	if !ok || p != 199000000 || !slices.Equal(w, slices.Repeat([]int{0}, 199)) {
		t.Error(len(w), p, ok)
	}
	w, p, ok = Between(y, 10, 199, []int{1000000})
	if !ok || p != 189000000 || len(w) != 189 {
		t.Error(len(w), p, ok)
	}
	if l := Live(y, []int{0}); len(l) != 200 || slices.Contains(l, false) {
		t.Error(l)
	}
	if l := Live(y, nil); len(l) != 200 || slices.Index(l, true) != 199 {
		t.Error(l)
	}
	// One symbol is dearer than all the others together, or just as dear.
	y = tableOf(t, "a{20} a{20} a{20} a{20} a{10} (a{10}|b)")
	if w, p, ok = Word(y, 0, []int{1000, 9999}); !ok || p != 99999 || len(w) != 91 {
		t.Error(len(w), p, ok)
	}
	if w, p, ok = Word(y, 0, []int{1000, 10001}); !ok || p != 100000 || len(w) != 100 {
		t.Error(len(w), p, ok)
	}
	if w, p, ok = Word(y, 0, []int{1000, 10000}); !ok || p != 100000 || len(w) != 91 {
		t.Error(len(w), p, ok)
	}
}

// byChance is the text of an expression by chance, of these names.
func byChance(chance *rand.Rand, deep int, names ...string) string {
	kind := chance.IntN(4)
	if deep == 0 || kind == 0 {
		return names[chance.IntN(len(names))]
	}
	if kind == 1 {
		counts := []string{"*", "+", "?", "{2}", "{2,}", "{0,2}", "{1,3}"}
		return "(" + byChance(chance, deep-1, names...) + ")" + counts[chance.IntN(len(counts))]
	}
	var l []string
	for range 2 + chance.IntN(2) {
		l = append(l, byChance(chance, deep-1, names...))
	}
	return "(" + strings.Join(l, []string{" ", "|"}[kind-2]) + ")"
}

// pricesByChance are few prices, so that many words are as cheap, and some that may not be had.
func pricesByChance(chance *rand.Rand, count int) []int {
	from := [][]int{{0, 1}, {1}, {0}, {0, 1, 2, 3, 5}, {1, 2, -1, 1000001}, {1000000, 999999, 500000, -1 << 63, 0}}
	some := from[chance.IntN(len(from))]
	var prices []int
	for range count {
		prices = append(prices, some[chance.IntN(len(some))])
	}
	return prices
}

// cost is a word's price; false, if a symbol of it may not be had.
func cost(w, prices []int) (int, bool) {
	sum := 0
	for _, symbol := range w {
		if symbol >= len(prices) || prices[symbol] < 0 || prices[symbol] > 1000000 {
			return 0, false
		}
		sum += prices[symbol]
	}
	return sum, true
}

// isBetter tells whether a word of symbols that may be had is better than another one.
func isBetter(a, b, prices []int) bool {
	p, _ := cost(a, prices)
	q, _ := cost(b, prices)
	switch {
	case p != q:
		return p < q
	case len(a) != len(b):
		return len(a) < len(b)
	}
	for i := range a {
		if a[i] != b[i] {
			return a[i] < b[i]
		}
	}
	return false
}

// tried is the best words from each state to those that are asked for, found by laying symbols ahead of words till nothing turns.
func tried(y *dfa.Table, prices []int, ends func(int) bool) ([][]int, []bool) {
	words, has := make([][]int, y.States()), make([]bool, y.States())
	for state := range words {
		has[state] = ends(state)
	}
	for turned := true; turned; {
		turned = false
		for state := range words {
			for symbol := range 32 {
				next, ok := y.Next(state, symbol)
				if !ok || !has[next] {
					continue
				}
				w := append([]int{symbol}, words[next]...)
				if _, ok := cost(w, prices); ok && (!has[state] || isBetter(w, words[state], prices)) {
					words[state], has[state], turned = w, true, true
				}
			}
		}
	}
	return words, has
}

// checkAll holds all that least tells of a table against what was tried.
func checkAll(t *testing.T, s string, y *dfa.Table, prices []int, to int) {
	t.Helper()
	words, has := tried(y, prices, y.Accepts)
	if l := Live(y, prices); !slices.Equal(l, has) {
		t.Fatalf("%q: Live by %v: %v", s, prices, l)
	}
	for from := range y.States() {
		w, p, ok := Word(y, from, prices)
		if want, _ := cost(words[from], prices); ok != has[from] || !slices.Equal(w, words[from]) || p != want {
			t.Fatalf("%q: Word(%d) by %v: %v, %d, %v, not %v", s, from, prices, w, p, ok, words[from])
		}
		if end, came := y.Run(from, w...); ok && (!came || !y.Accepts(end)) || y.Accepts(from) && len(w) > 0 {
			t.Fatalf("%q: Word(%d) by %v: %v isn't accepted", s, from, prices, w)
		}
	}
	words, has = tried(y, prices, func(state int) bool { return state == to })
	for from := range y.States() {
		w, p, ok := Between(y, from, to, prices)
		if want, _ := cost(words[from], prices); ok != has[from] || !slices.Equal(w, words[from]) || p != want {
			t.Fatalf("%q: Between(%d, %d) by %v: %v, %d, %v, not %v", s, from, to, prices, w, p, ok, words[from])
		}
	}
}

// P9.1, P9.2, P9.3: tables and prices by chance.
func TestByChance(t *testing.T) {
	chance := rand.New(rand.NewPCG(9, 1))
	for range 2000 {
		s := byChance(chance, 1+chance.IntN(4), "a", "b", "c", "d", "ab", "high", "out")
		if y := tableOf(t, s); y != nil && y.States() < 60 {
			checkAll(t, s, y, pricesByChance(chance, []int{3, 4, 32, 40}[chance.IntN(4)]), chance.IntN(y.States()))
		}
	}
	for range 20 {
		s := "(a|b|c)* (a|ab b) (a|b|ab){" + strconv.Itoa(1+chance.IntN(5)) + "} " + byChance(chance, 2, "a", "b", "c")
		if y := tableOf(t, s); y != nil {
			checkAll(t, s, y, pricesByChance(chance, 3), chance.IntN(y.States()))
		}
	}
}

// P9.3: no word at all is better, of all that pass no state twice.
func TestAllWords(t *testing.T) {
	chance := rand.New(rand.NewPCG(9, 3))
	count := 0
	for range 3000 {
		s := byChance(chance, 1+chance.IntN(3), "a", "b", "ab", "c")
		y := tableOf(t, s)
		if y == nil || y.States() > 8 {
			continue
		}
		prices := pricesByChance(chance, 3)
		var best []int
		found := false
		var try func(state int, w []int)
		try = func(state int, w []int) {
			if y.Accepts(state) && (!found || isBetter(w, best, prices)) {
				best, found = slices.Clone(w), true
			}
			for symbol := range 3 {
				next, ok := y.Next(state, symbol)
				if _, had := cost([]int{symbol}, prices); ok && had && len(w) < y.States() {
					try(next, append(w, symbol))
				}
			}
		}
		try(0, nil)
		w, p, ok := Word(y, 0, prices)
		if want, _ := cost(best, prices); ok != found || !slices.Equal(w, best) || p != want {
			t.Fatalf("%q: Word by %v: %v, %d, %v, not %v", s, prices, w, p, ok, best)
		}
		count++
	}
	if count < 1000 {
		t.Error(count)
	}
}

// P3, P6: what is handed in stays, what is answered is new, and the same each time.
func TestAgain(t *testing.T) {
	y := tableOf(t, "a+ (b|c)")
	room := []int{1, 5, 2, 0, 0}
	one, _, _ := Word(y, 0, room[:3])
	two, _, _ := Between(y, 0, 3, room[:3])
	live := Live(y, room[:3])
	one[0], two[0], live[0] = 9, 9, false
	if w, p, ok := Word(y, 0, room[:3]); !ok || p != 3 || !slices.Equal(w, []int{0, 2}) {
		t.Error(w, p, ok)
	}
	if w, p, ok := Between(y, 0, 3, room[:3]); !ok || p != 3 || !slices.Equal(w, []int{0, 2}) {
		t.Error(w, p, ok)
	}
	if l := Live(y, room[:3]); slices.Contains(l, false) || !slices.Equal(room, []int{1, 5, 2, 0, 0}) {
		t.Error(l, room)
	}
}
