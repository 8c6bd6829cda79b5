package diff

import (
	"math/rand/v2"
	"slices"
	"testing"

	"stet/api"
	"stet/fits"
	"stet/patch"
	"stet/schema"
	"stet/step"
	"stet/token"
	"stet/tree"
)

// longest is how many tokens a row can have that stands in both rows, with others between.
func longest(a, b []api.Token) int {
	row := make([]int, len(b)+1)
	for _, x := range a {
		corner := 0
		for k, y := range b {
			next := max(row[k+1], row[k])
			if x == y {
				next = corner + 1
			}
			corner, row[k+1] = row[k+1], next
		}
	}
	return row[len(b)]
}

// letters are letters by chance, of so many different ones.
func letters(chance *rand.Rand, n, different int) []api.Token {
	var l []api.Token
	for range n {
		l = append(l, api.Token{Kind: api.Char, Rune: rune('a' + chance.IntN(different)), Marks: api.Marks{uint16(chance.IntN(different) / 4)}})
	}
	return l
}

// changed is a row of which so many times a little is another one.
func changed(chance *rand.Rand, l []api.Token, times, different int) []api.Token {
	l = slices.Clone(l)
	for range times {
		from := chance.IntN(len(l) + 1)
		to := min(from+chance.IntN(3), len(l))
		l = slices.Replace(l, from, to, letters(chance, chance.IntN(3), different)...)
	}
	return l
}

// splices holds One against the chapter's words: of all splices that make b of a the one with most tokens ahead, and then behind.
func splices(t *testing.T, a, b []api.Token) {
	t.Helper()
	y, ok := One(a, b)
	if token.Same(a, b) {
		if ok || !step.Same(y, api.Step{}) {
			t.Fatal(a, b, y)
		}
		return
	}
	var want api.Step
	for from := 0; from <= min(len(a), len(b)) && token.Same(a[:from], b[:from]); from++ {
		for behind := 0; behind <= min(len(a), len(b))-from && token.Same(a[len(a)-behind:], b[len(b)-behind:]); behind++ {
			want = api.Step{Kind: api.Splice, From: from, To: len(a) - behind, Slice: b[from : len(b)-behind]}
		}
	}
	if !ok || !step.Same(y, want) || !token.Same(slices.Concat(a[:y.From], y.Slice, a[y.To:]), b) {
		t.Fatalf("%v and %v: %+v, %v", a, b, y, ok)
	}
}

// P30.1, P30.2: all rows of few letters.
func TestAllSmall(t *testing.T) {
	rows := [][]api.Token{nil}
	for i := 0; len(rows[i]) < 5; i++ {
		for r := range 3 {
			rows = append(rows, append(slices.Clip(rows[i]), token.Text(rune('a'+r))...))
		}
	}
	for _, a := range rows {
		for _, b := range rows {
			parts := Parts(a, b)
			if right(t, a, b, parts); Kept(parts) != longest(a, b) {
				t.Fatal(a, b, parts)
			}
			splices(t, a, b)
		}
	}
}

// P30.1, P30.2: rows by chance: as many tokens are kept as can be, if no more than 400 differ.
func TestByChance(t *testing.T) {
	chance := rand.New(rand.NewPCG(30, 1))
	var differ [5]int
	for i := range 4000 {
		different := 1 + chance.IntN(10)
		a := letters(chance, chance.IntN(30+i%8*40), different)
		b := letters(chance, chance.IntN(30+i%8*40), different)
		if i%3 > 0 {
			b = changed(chance, a, 1+chance.IntN(40), different)
		}
		parts := Parts(a, b)
		right(t, a, b, parts)
		most := longest(a, b)
		alone := len(a) + len(b) - 2*most
		if kept := Kept(parts); kept > most || kept < most && alone <= 400 {
			t.Fatalf("%v and %v: %v: %d, not %d", a, b, parts, kept, most)
		}
		differ[min(alone/50, 4)]++
		if i%10 == 0 {
			splices(t, a, b)
		}
	}
	for _, few := range differ {
		if few < 100 {
			t.Error(differ)
		}
	}
}

// P30.2: long rows of which about as many tokens differ as may.
func TestLongByChance(t *testing.T) {
	chance := rand.New(rand.NewPCG(30, 2))
	var near, beyond int
	for range 60 {
		different := 2 + chance.IntN(30)
		a := letters(chance, 1000+chance.IntN(1000), different)
		b := changed(chance, a, 150+chance.IntN(250), different)
		parts := Parts(a, b)
		right(t, a, b, parts)
		most := longest(a, b)
		alone := len(a) + len(b) - 2*most
		if kept := Kept(parts); kept > most || kept < most && alone <= 400 {
			t.Fatalf("%d, not %d", kept, most)
		}
		if alone > 400 {
			beyond++
		} else if alone > 300 {
			near++
		}
	}
	if near < 10 || beyond < 5 {
		t.Error(near, beyond)
	}
}

// P30.2: rows of which much more differs are right, and much is kept of them still.
func TestFarByChance(t *testing.T) {
	chance := rand.New(rand.NewPCG(30, 3))
	for range 20 {
		different := 2 + chance.IntN(40)
		a := letters(chance, 4000, different)
		b := changed(chance, a, 2000, different)
		parts := Parts(a, b)
		right(t, a, b, parts)
		if most := longest(a, b); Kept(parts) > most || Kept(parts) < most*9/10 {
			t.Errorf("%d, not %d", Kept(parts), most)
		}
	}
}

// made is the schema that the tests know: doc is 1, q 2, p 3, hr 4; b is the mark 0.
func made(t testing.TB) *schema.Schema {
	t.Helper()
	s, e := schema.New("mark b\nnode doc : (q|p|hr)*\nnode q attr=9 : (q|p|hr)*\nnode p marks=* : text*\nnode hr\n")
	if e != api.OK {
		t.Fatal(e)
	}
	return s
}

// grown is a row by chance that is whole, and at most so deep.
func grown(chance *rand.Rand, deep int) []api.Token {
	var l []api.Token
	for range chance.IntN(5) {
		switch kind := 2 + chance.IntN(3); {
		case kind == 2 && deep > 0:
			l = slices.Concat(l, []api.Token{{Kind: api.Open, Type: 2, Attr: chance.IntN(3)}}, grown(chance, deep-1), []api.Token{{Kind: api.Close}})
		case kind == 3:
			l = slices.Concat(l, []api.Token{{Kind: api.Open, Type: 3}}, letters(chance, chance.IntN(6), 5), []api.Token{{Kind: api.Close}})
		default:
			l = append(l, api.Token{Kind: api.Leaf, Type: 4})
		}
	}
	return l
}

// P30.3: woven of a, the parts are b; so is what the splice makes.
func TestWoven(t *testing.T) {
	s := made(t)
	chance := rand.New(rand.NewPCG(30, 4))
	for range 3000 {
		a, b := grown(chance, 3), grown(chance, 3)
		m, e := fits.Doc(s, a)
		n, f := fits.Doc(s, b)
		if e != api.OK || f != api.OK {
			t.Fatal(e, f)
		}
		parts := Parts(a, b)
		right(t, a, b, parts)
		if woven, e := patch.Weave(s, m, parts...); e != api.OK || !tree.Same(woven, n) {
			t.Fatalf("%v and %v: %v, %v", a, b, parts, e)
		}
		x, ok := One(a, b)
		if done, e := step.Apply(s, m, x); ok && (e != api.OK || !tree.Same(done, n)) || ok == tree.Same(m, n) {
			t.Fatalf("%v and %v: %+v, %v", a, b, x, e)
		}
	}
}
