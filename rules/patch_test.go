package rules

import (
	"slices"
	"strings"
	"testing"

	"stet/api"
	"stet/fits"
	"stet/page"
	"stet/patch"
	"stet/token"
	"stet/words"
)

// P1, P2, P5: nodes that nobody would mean are woven and spliced, by numbers of any size, which aren't let go round.
func TestPatches(t *testing.T) {
	s := compiled(t)
	for i, n := range nodes(t) {
		size := len(n.Tokens())
		if m, e := patch.Splice(nil, n, 0, 0, nil); m != nil || e != api.ErrNil {
			t.Error(i, m, e)
		}
		for _, from := range append(numbers(), 3, 1<<32+1) {
			for _, to := range append(numbers(), 3, 1<<32+1) {
				right := from >= 0 && from <= to && to <= size
				m, e := patch.Splice(s, n, from, to, nil)
				if n == nil && e != api.ErrNil || n != nil && (e == api.ErrRange) == right || (m == nil) != (e != api.OK) || e == api.OK && len(m.Tokens()) != size-to+from {
					t.Errorf("%v from %d to %d: %v, %v", n, from, to, m, e)
				}
				k, f := patch.Weave(s, n, patch.Put(token.Text('a')...), patch.Keep(from, to))
				if n == nil && f != api.ErrNil || n != nil && (f == api.ErrRange) == right || k != nil || f == api.OK {
					t.Errorf("%v from %d to %d: %v, %v", n, from, to, k, f)
				}
			}
		}
	}
	n := lineTree(s, `<p "a >`)
	for _, x := range tokens() {
		_, want := fits.Doc(s, []api.Token{{Kind: api.Open, Type: 2}, {Kind: api.Char, Rune: 'a'}, x, {Kind: api.Close}})
		if m, e := patch.Splice(s, n, 2, 2, []api.Token{x}); e != want || (m == nil) != (e != api.OK) {
			t.Errorf("%+v: %v, %v", x, m, e)
		}
	}
}

// P1, P2: nodes and texts that nobody would mean are no pages, or are read as they were.
func TestPages(t *testing.T) {
	for _, s := range schemas(t) {
		for i, n := range nodes(t) {
			text, e := page.Write(s, n)
			m, at, f := page.Read(s, text)
			switch {
			case s == nil || n == nil:
				if text != "" || e != api.ErrNil || s == nil && f != api.ErrNil {
					t.Error(i, text, e)
				}
			case e != api.OK && (e != api.ErrArg || text != ""):
				t.Error(i, text, e)
			case e == api.OK && (f != api.OK || at != 0 || !token.Same(m.Tokens(), n.Tokens())):
				t.Error(i, text, f)
			}
		}
		for _, text := range texts() {
			for _, text := range []string{text, text + "\n", "*hr\n" + text + "\n*hr\n", "<p \"" + text + " >\n"} {
				n, at, e := page.Read(s, text)
				back, f := page.Write(s, n)
				if (n == nil) != (e != api.OK) || e == api.OK && (at != 0 || f != api.OK || back != text) || s == nil && (e != api.ErrNil || at != 0) || at > strings.Count(text, "\n")+1 {
					t.Errorf("%.60q: %v, %d, %v", text, n, at, e)
				}
			}
		}
	}
}

// patchSay is what is told of a line's tree by its splices and its page, as words.
func patchSay(t *testing.T, line string) []string {
	t.Helper()
	s := compiled(t)
	n := lineTree(s, line)
	text, e := page.Write(s, n)
	said := []string{text, e.Error()}
	for at := range max(n.Size()-1, 0) {
		for _, row := range []string{``, `"x`, `> <p`, `*hr`, `b*br`} {
			l, _, _ := token.Parse(s, row)
			m, e := patch.Splice(s, n, at, min(at+1, n.Size()-2), l)
			w, _ := token.Show(s, m.Tokens())
			said = append(said, w, e.Error())
			m, e = patch.Weave(s, n, patch.Keep(at, n.Size()-2), patch.Put(l...), patch.Keep(0, at))
			w, _ = token.Show(s, m.Tokens())
			said = append(said, w, e.Error())
		}
	}
	m, at, e := page.Read(s, line+"\n"+line)
	return append(said, words.Show(m.Size()), words.Show(at), e.Error())
}

// P3, P6: trees stay as they are, whatever is woven of them; what is handed in isn't kept, and what is answered is new.
func TestPatchesStay(t *testing.T) {
	const line = `<p=9 b*br link=4*br > *hr <p >`
	was := patchSay(t, line)
	s := compiled(t)
	n := lineTree(s, line)
	l := []api.Token{{Kind: api.Leaf, Type: 4}, {Kind: api.Leaf, Type: 4, Marks: api.Marks{1}}}
	kept := patch.Put(l...)
	for range 2 {
		m, e := patch.Splice(s, n, 3, 3, l)
		if e != api.OK {
			t.Fatal(e)
		}
		clear(l)
		clear(m.Tokens())
		clear(m.Kid(0).Kid(1).Whole())
		if w, ok := token.Show(s, m.Tokens()); w != `<p=9 b*br link=4*br *br b*br > *hr <p >` || !ok || m.Kid(1) != n.Kid(1) || m.Kid(2) != n.Kid(2) {
			t.Error(w)
		}
		copy(l, kept.New)
	}
	if w, ok := token.Show(s, n.Tokens()); w != line || !ok || !slices.Equal(l, kept.New) {
		t.Error(w, l)
	}
	if now := patchSay(t, line); !slices.Equal(now, was) {
		t.Error(now, was)
	}
}

// P2: of the errors of splices and of pages the first one is told.
func TestFirstPatchFault(t *testing.T) {
	s := compiled(t)
	n := lineTree(s, `<p *br >`)
	wrong := make([]api.Token, api.MaxSize+1)
	most := slices.Repeat([]api.Token{{Kind: api.Close}}, api.MaxSize+1)
	for want, parts := range map[api.Errno][]patch.Part{
		api.ErrRange: {patch.Put(wrong...), patch.Put(most...), patch.Keep(0, 4)},
		api.ErrArg:   {patch.Put(most...), patch.Put(wrong...), patch.Keep(0, 3)},
		api.ErrLong:  {patch.Put(most...), patch.Keep(0, 3)},
		api.ErrOpen:  {patch.Put(most[0]), patch.Keep(1, 2)},
		api.ErrFit:   {patch.Keep(1, 2)},
	} {
		if m, e := patch.Weave(s, n, parts...); m != nil || e != want {
			t.Error(m, e, want)
		}
		if m, e := patch.Weave(s, nil, parts...); m != nil || e != api.ErrNil {
			t.Error(m, e)
		}
	}
	for want, text := range map[api.Errno]string{
		api.ErrLong: strings.Repeat("*x\n", 21846), api.ErrNone: "*hr\n*hr *x\n*hr *hr\n", api.ErrForm: "*hr\n*hr *hr\n*x\n", api.ErrFit: "\"a\n*hr\n",
	} {
		place := map[api.Errno]int{api.ErrNone: 2, api.ErrForm: 2}[want]
		if m, at, e := page.Read(s, text); m != nil || e != want || at != place {
			t.Error(m, at, e)
		}
	}
}
