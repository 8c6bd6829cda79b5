package rules

import (
	"slices"
	"testing"

	"stet/api"
	"stet/marks"
	"stet/schema"
	"stet/words"
)

// compiled is a schema in which something stands of each kind.
func compiled(t *testing.T) *schema.Schema {
	t.Helper()
	s, e := schema.New("mark b\nmark link val=9\nmark code bars=*\nnode doc : block+\nnode p group=block marks=* pick attr=9 : line*\nnode hr group=block pick\nnode br group=line inline\n")
	if e != api.OK {
		t.Fatal(e)
	}
	return s
}

// schemas are a schema, and a nil one.
func schemas(t *testing.T) []*schema.Schema { return []*schema.Schema{compiled(t), nil} }

// sets are sets of marks, some of which may not be.
func sets() []api.Marks {
	l := []api.Marks{{}, {1}, {1, 4}, {0, 10}, {0, 0, 1}, {1, 0, 1}, {2}, {0, 11}}
	for i := range api.MaxMarks {
		var m api.Marks
		m[i] = 65535
		l = append(l, m)
	}
	return l
}

// compiledSay is what a schema tells, and what marks make of it, as words.
func compiledSay(t *testing.T, s *schema.Schema) []string {
	t.Helper()
	var l []string
	tell := func(numbers ...int) {
		for _, n := range numbers {
			l = append(l, words.Show(n))
		}
	}
	flag := func(is ...bool) {
		for _, one := range is {
			tell(map[bool]int{true: 1, false: 0}[one])
		}
	}
	tell(s.Types(), s.Marks())
	for i := range 6 {
		l = append(l, s.Name(i), s.MarkName(i))
		tell(s.MaxAttr(i), s.MaxValue(i), s.Table(i).States())
		flag(s.Leaf(i), s.Inline(i), s.Picks(i), s.Texts(i), s.Fits(i), s.Fits(i, 2, 3), s.Fits(i, 4, 4), s.Bars(i, 1), s.Allows(2, i))
	}
	tell(s.Group("block")...)
	for _, m := range sets() {
		w, ok := marks.Show(s, m)
		more, can := marks.Add(s, m, 1, 5)
		less, could := marks.Remove(m, 0, 0)
		back, e := marks.Parse(s, w)
		l = append(l, w, e.Error())
		flag(ok, can, could, marks.Right(s, m), marks.Within(s, 2, m))
		for _, set := range []api.Marks{more, less, back} {
			for _, one := range marks.List(set) {
				tell(one[:]...)
			}
		}
	}
	return l
}

// P1, P2: of texts that nobody would mean there is no schema, and no set of marks, and all else is zero.
func TestSchemaTexts(t *testing.T) {
	for _, text := range texts() {
		for _, lines := range []string{text, "node a : " + text + "\n", "node a :\n" + text + "\n", "node a marks=" + text + " :\n", "node a group=" + text + " : a\nmark b bars=" + text + "\n"} {
			s, e := schema.New(lines)
			if (s == nil) != (e != api.OK) {
				t.Errorf("New(%.60q): %v", lines, e)
			}
			if s != nil {
				compiledSay(t, s)
			}
		}
		for _, s := range schemas(t) {
			if n, ok := s.Find(text); n != 0 || ok || s.Group(text) != nil {
				t.Errorf("Find(%.60q) = %d, %v", text, n, ok)
			}
			if n, ok := s.FindMark(text); n != 0 || ok {
				t.Errorf("FindMark(%.60q) = %d, %v", text, n, ok)
			}
			if m, e := marks.Parse(s, text); m != (api.Marks{}) || (e == api.OK) != (s != nil && text == "") || s == nil && e != api.ErrNil {
				t.Errorf("Parse(%.60q) = %v, %v", text, m, e)
			}
		}
	}
}

// P1, P5: schemas and sets are asked of numbers of any size, which aren't let go round.
func TestSchemaNumbers(t *testing.T) {
	more := append(numbers(), 3, 4, 5, 8, 256, 257, 1<<16+1, 1<<32, 1<<32+2, -1<<32+1)
	for _, s := range schemas(t) {
		for _, n := range more {
			is, isMark := s != nil && n >= 0 && n <= 4, s != nil && n >= 0 && n <= 2
			if (s.Name(n) != "") != is || (s.MarkName(n) != "") != isMark || s.Bars(n, n) != isMark || s.Allows(2, n) != isMark {
				t.Errorf("%d: %q, %q", n, s.Name(n), s.MarkName(n))
			}
			if !is && (s.Leaf(n) || s.Inline(n) || s.Picks(n) || s.Texts(n) || s.MaxAttr(n) != 0 || s.Table(n) != nil || s.Fits(n)) || !isMark && s.MaxValue(n) != 0 {
				t.Errorf("something is told of %d", n)
			}
			for _, k := range more {
				if s.Fits(n, k, k) != (s != nil && (n == 1 && (k == 2 || k == 3) || n == 2 && k == 4)) {
					t.Errorf("Fits(%d, %d, %d)", n, k, k)
				}
				if s.Bars(n, k) != (isMark && s.MarkName(k) != "" && (n == k || n == 2)) || s.Allows(n, k) != (n == 2 && s.MarkName(k) != "") {
					t.Errorf("Bars(%d, %d)", n, k)
				}
				for _, m := range sets() {
					got, ok := marks.Add(s, m, n, k)
					if !ok && got != m || ok && (!isMark || k < 0 || k > s.MaxValue(n) || int(got[n]) != k+1) {
						t.Errorf("%d=%d added to %v: %v, %v", n, k, m, got, ok)
					}
					if got, ok := marks.Remove(m, n, k); !ok && got != m || ok && (n < 0 || n >= api.MaxMarks || int(m[n]) != k+1 || got[n] != 0) {
						t.Errorf("%d=%d removed from %v: %v, %v", n, k, m, got, ok)
					}
					if marks.Within(s, n, m) && (s == nil || m != (api.Marks{}) && n != 2) {
						t.Errorf("Within(%d, %v)", n, m)
					}
				}
			}
			if v, ok := marks.Has(api.Marks{1, 2, 3, 4, 5, 6, 7, 8}, n); ok != (n >= 0 && n < api.MaxMarks) || ok && v != n || !ok && v != 0 {
				t.Errorf("Has(%d) = %d, %v", n, v, ok)
			}
		}
	}
}

// P3, P4: what is handed in stays, what is answered is new, and sets are copied by =.
func TestSchemaShares(t *testing.T) {
	s := compiled(t)
	was := compiledSay(t, s)
	room := []int{2, 3, 3, 7, 7}
	if !s.Fits(1, room[:3]...) || !slices.Equal(room, []int{2, 3, 3, 7, 7}) {
		t.Error(room)
	}
	group := s.Group("block")
	_ = append(group[:1], 9, 9, 9)
	clear(group)
	m := api.Marks{1, 4}
	list := marks.List(m)
	list[0][0], list[1] = 9, [2]int{9, 9}
	more, _ := marks.Add(s, m, 2, 0)
	more[5] = 7
	if m != (api.Marks{1, 4}) || !slices.Equal(marks.List(m), [][2]int{{0, 0}, {1, 3}}) {
		t.Error(m)
	}
	if l := compiledSay(t, s); !slices.Equal(l, was) {
		t.Error(l, was)
	}
}
