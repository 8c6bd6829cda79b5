package weld

import (
	"math/rand/v2"
	"slices"
	"testing"

	"stet/api"
	"stet/fits"
	"stet/schema"
	"stet/step"
	"stet/token"
	"stet/tree"
)

// want is the step of two, as the words of the chapter say it.
func want(a, b api.Step) (api.Step, bool) {
	if !step.Shape(a) || !step.Shape(b) {
		return api.Step{}, false
	}
	y := api.Step{Kind: a.Kind}
	both := func(kind int) bool { return a.Kind == kind && b.Kind == kind }
	one := a.Mark == b.Mark && a.Value == b.Value
	apart := a.From > b.To || b.From > a.To
	switch {
	case both(api.Splice) && b.From == a.From+len(a.Slice):
		y.From, y.To, y.Slice = a.From, a.To+(b.To-b.From), slices.Concat(a.Slice, b.Slice)
	case both(api.Splice) && b.To == a.From:
		y.From, y.To, y.Slice = b.From, a.To, slices.Concat(b.Slice, a.Slice)
	case (both(api.AddMark) || both(api.RemoveMark)) && one && !apart:
		y.From, y.To, y.Mark, y.Value = min(a.From, b.From), max(a.To, b.To), a.Mark, a.Value
	default:
		return api.Step{}, false
	}
	if len(y.Slice) > 20000 || y.From > most || y.To > most {
		return api.Step{}, false
	}
	return y, true
}

// small are all steps of few tokens with small numbers.
func small() []api.Step {
	l := append(others(), api.Step{})
	for from := range 5 {
		for to := range 5 {
			for n, letters := range []string{"", "a", "bc"} {
				l = append(l, splice(from, to, letters), added(from, to, n/2, n%2), removed(from, to, n/2, n%2))
			}
			l = append(l, api.Step{Kind: api.Splice, From: most - from, To: most - to, Slice: token.Text('x')}, added(most-from, most-to, 0, 0))
		}
	}
	return l
}

// P27.1: all pairs of small steps, against the words of the chapter.
func TestSmall(t *testing.T) {
	all := small()
	count := 0
	for _, a := range all {
		for _, b := range all {
			y, ok := Two(a, b)
			if z, fine := want(a, b); ok != fine || !step.Same(y, z) {
				t.Fatalf("%+v and %+v: %+v, %v, not %+v", a, b, y, ok, z)
			}
			if ok {
				count++
			}
		}
	}
	if count < 1000 {
		t.Error(count)
	}
}

// P27.2: rows of small steps by chance, welded one by one.
func TestRows(t *testing.T) {
	all := small()
	chance := rand.New(rand.NewPCG(27, 1))
	count := map[int]int{}
	for range 30000 {
		var l, stand []api.Step
		for range chance.IntN(9) {
			x := all[chance.IntN(len(all))]
			// Mostly near to the last one, as steps are made.
			if n := len(l) - 1; n >= 0 && chance.IntN(4) > 0 {
				at := max(l[n].From+chance.IntN(3)-chance.IntN(2), 0)
				x.Kind, x.From, x.To = l[n].Kind, at, at+chance.IntN(2)
			}
			l = append(l, x)
			if n := len(stand) - 1; n >= 0 {
				if y, ok := want(stand[n], x); ok {
					stand[n] = y
					continue
				}
			}
			stand = append(stand, x)
		}
		if got := All(l...); !slices.EqualFunc(got, stand, step.Same) {
			t.Fatalf("%+v: %+v, not %+v", l, got, stand)
		}
		count[len(l)-len(stand)]++
	}
	if count[1] < 2000 || count[2] < 500 || count[3] < 100 {
		t.Error(count)
	}
}

// made is a schema in which splices of letters, of whole nodes and of their ends may often be; a mark bars another one, and one may be only in some types.
func made(t *testing.T) *schema.Schema {
	t.Helper()
	s, e := schema.New("mark b\nmark i val=2\nmark code bars=*\nnode doc : (q|p)*\nnode q : (q|p|h)*\nnode p marks=* : text*\nnode h marks=b,i : text*\n")
	if e != api.OK {
		t.Fatal(e)
	}
	return s
}

// grown is a row by chance that is whole, and at most so deep.
func grown(chance *rand.Rand, deep int) []api.Token {
	var l []api.Token
	for range chance.IntN(4) {
		x := []api.Token{{Kind: api.Open, Type: 2 + chance.IntN(2)}}
		if x[0].Type == 3 {
			for range chance.IntN(5) {
				set := []api.Marks{{}, {1}, {0, 1}, {0, 2}, {0, 0, 1}}[chance.IntN(5)]
				x = append(x, api.Token{Kind: api.Char, Rune: rune('a' + chance.IntN(26)), Marks: set})
			}
		} else if deep > 0 {
			x = append(x, grown(chance, deep-1)...)
		}
		l = append(append(l, x...), api.Token{Kind: api.Close})
	}
	return l
}

// next is a step by chance of a document of so many tokens, near to where the last one was.
func next(chance *rand.Rand, size int, last api.Step) api.Step {
	if last.Kind == api.AddMark || last.Kind == api.RemoveMark {
		from := min(max(last.From+chance.IntN(5)-3, 0), size)
		x := last
		x.From, x.To = from, min(from+chance.IntN(4), size)
		return x
	}
	from := min(max(last.From+[]int{len(last.Slice), 0, -1, -2}[chance.IntN(4)], 0), size)
	x := api.Step{Kind: api.Splice, From: from, To: min(from+chance.IntN(3), size)}
	switch chance.IntN(4) {
	case 0:
		x.Slice = grown(chance, 1)
	case 1:
		x.Slice = []api.Token{{Kind: api.Close}, {Kind: api.Open, Type: 2 + chance.IntN(3)}}
	}
	for range chance.IntN(3) {
		x.Slice = append(x.Slice, api.Token{Kind: api.Char, Rune: rune('a' + chance.IntN(26))})
	}
	return x
}

// P27.3: of steps that may be done one behind the other what they are welded to makes the same document.
func TestSameDocument(t *testing.T) {
	s := made(t)
	chance := rand.New(rand.NewPCG(27, 2))
	count := map[int]int{}
	for range 20000 {
		n, e := fits.Doc(s, grown(chance, 2))
		if e != api.OK {
			t.Fatal(e)
		}
		size := n.Size() - 2
		last := api.Step{Kind: api.Splice, From: chance.IntN(size + 1)}
		if chance.IntN(2) == 0 {
			last.Kind, last.Mark = []int{api.AddMark, api.RemoveMark}[chance.IntN(2)], chance.IntN(3)
			if last.Mark == 1 {
				last.Value = chance.IntN(2)
			}
		}
		var l []api.Step
		m := n
		for range 12 {
			x := next(chance, m.Size()-2, last)
			if k, e := step.Apply(s, m, x); e == api.OK {
				l, m, last = append(l, x), k, x
			}
		}
		welded := All(l...)
		k := n
		for _, x := range welded {
			if k, e = step.Apply(s, k, x); e != api.OK {
				t.Fatalf("%v: %+v, welded to %+v: %v", n.Tokens(), l, welded, e)
			}
		}
		if !tree.Same(k, m) {
			t.Fatalf("%v: %+v, welded to %+v: %v, not %v", n.Tokens(), l, welded, k.Tokens(), m.Tokens())
		}
		count[last.Kind] += len(l) - len(welded)
	}
	if count[api.Splice] < 10000 || count[api.AddMark] < 10000 || count[api.RemoveMark] < 10000 {
		t.Error(count)
	}
}
