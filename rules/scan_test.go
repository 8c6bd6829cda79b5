package rules

import (
	"slices"
	"testing"

	"stet/api"
	"stet/fits"
	"stet/scan"
	"stet/token"
	"stet/words"
)

// P1, P2, P5: what is right of nodes that nobody would mean, and what is told of them, by numbers of any size.
func TestScans(t *testing.T) {
	for i, n := range nodes(t) {
		size := len(n.Tokens())
		for _, s := range schemas(t) {
			at, e := fits.Tree(s, n)
			own := fits.Node(s, n)
			if s == nil || n == nil {
				if at != 0 || e != api.ErrNil || own != api.ErrNil {
					t.Errorf("%v: %d, %v, %v", n, at, e, own)
				}
			} else if e == api.OK && at != 0 || (own != api.OK) != (at == -1) || own != api.OK && own != e || at > size {
				t.Errorf("%v: %d, %v, %v", n, at, e, own)
			}
			if l := fits.Kids(n); len(l) > n.Kids() || (len(l) > 0) != (n.Kids() > 0) {
				t.Errorf("%v: %v", n, l)
			}
			if b := scan.Blocks(s, n); len(b) > 0 && (s == nil || b[0][0] < 0 || b[len(b)-1][1] > size) {
				t.Errorf("%v: %v", n, b)
			}
			for _, from := range append(numbers(), 3, 1<<32+1) {
				for _, to := range append(numbers(), 3, 1<<32+1) {
					count := 0
					for at, node := range scan.Between(n, from, to) {
						if count++; at < 0 || at >= size || at >= to || at+node.Size() <= from || from >= to {
							t.Errorf("Between(%d, %d) tells %d", from, to, at)
						}
					}
					if count > 0 && i < 2 {
						t.Error(i, from, to)
					}
					for _, r := range scan.Runs(s, n, from, to) {
						if s == nil || r.From < max(from, 0) || r.To > min(to, size) || r.From >= r.To {
							t.Errorf("Runs(%d, %d) tells %v", from, to, r)
						}
					}
				}
				if l := scan.Find(n, from); !slices.IsSorted(l) || len(l) > scan.Counts(n)[from] {
					t.Errorf("Find(%d): %v", from, l)
				}
			}
		}
	}
}

// P1, P2: there is no document of one token that may not be, or doesn't fit.
func TestDocsOfTokens(t *testing.T) {
	for _, s := range schemas(t) {
		for _, x := range tokens() {
			want := api.OK
			switch {
			case s == nil:
				want = api.ErrNil
			case !token.Right(s, x):
				want = api.ErrArg
			case x.Kind == api.Open || x.Kind == api.Close:
				want = api.ErrOpen
			case x.Kind == api.Char || x.Type != 3:
				want = api.ErrFit
			}
			if n, e := fits.Doc(s, []api.Token{x}); e != want || (n != nil) != (e == api.OK) {
				t.Errorf("Doc(%+v): %v", x, e)
			}
		}
	}
}

// scanSay is what is told of all that is in a line's tree, as words.
func scanSay(t *testing.T, line string) []string {
	t.Helper()
	s := compiled(t)
	n := lineTree(s, line)
	at, e := fits.Tree(s, n)
	said := []string{e.Error(), fits.Node(s, n).Error()}
	tell := func(numbers ...int) {
		for _, k := range numbers {
			said = append(said, words.Show(k))
		}
	}
	tell(at)
	tell(fits.Kids(n)...)
	for at, node := range scan.Between(n, 1, 7) {
		tell(at, node.Size())
		tell(fits.Kids(node)...)
	}
	for _, r := range scan.Runs(s, n, 2, 9) {
		tell(r.From, r.To, len(r.Marks))
	}
	for _, b := range scan.Blocks(s, n) {
		tell(b[:]...)
	}
	for typ := range 5 {
		tell(scan.Find(n, typ)...)
		tell(scan.Counts(n)[typ])
	}
	return said
}

// P3, P6: nodes stay as they are, whatever is told of them, and done with it.
func TestScansStay(t *testing.T) {
	const line = `<p=9 b*br link=4*br > *hr <p >`
	was := scanSay(t, line)
	s := compiled(t)
	l, _, _ := token.Parse(s, line)
	n, e := fits.Doc(s, l)
	if e != api.OK {
		t.Fatal(e)
	}
	clear(l)
	clear(fits.Kids(n))
	clear(scan.Runs(s, n, 0, 9))
	clear(scan.Blocks(s, n))
	clear(scan.Find(n, 2))
	clear(scan.Counts(n))
	if w, ok := token.Show(s, n.Tokens()); w != line || !ok || !slices.Equal(fits.Kids(n), []int{2, 3, 2}) {
		t.Error(w)
	}
	if now := scanSay(t, line); !slices.Equal(now, was) {
		t.Error(now, was)
	}
}
