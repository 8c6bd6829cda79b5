package marks

import (
	"math/rand/v2"
	"regexp"
	"slices"
	"strconv"
	"strings"
	"testing"

	"stet/api"
	"stet/schema"
)

// made is the schema of some marks, with a node that allows all of them, and one that allows b and code.
func made(t testing.TB, l ...string) *schema.Schema {
	t.Helper()
	s, e := schema.New(strings.Join(l, "\n") + "\nnode doc marks=* :\nnode few marks=b,code\nnode none :\n")
	if e != api.OK {
		t.Fatalf("%q: %v", l, e)
	}
	return s
}

// plain is the schema of the example.
func plain(t testing.TB) *schema.Schema {
	t.Helper()
	return made(t, "mark b", "mark i val=9", "mark code bars=*")
}

// P12.2, P12.3: the example.
func TestExample(t *testing.T) {
	s := plain(t)
	b, _ := Parse(s, "b")
	both, ok := Add(s, b, 1, 3)
	if w, is := Show(s, both); !ok || !is || w != "b+i=3" || b != (api.Marks{1}) || both != (api.Marks{1, 4}) {
		t.Error(both, w)
	}
	code, ok := Add(s, both, 2, 0)
	if w, is := Show(s, code); !ok || !is || w != "code" || code != (api.Marks{0, 0, 1}) {
		t.Error(code, w)
	}
	if m, ok := Add(s, code, 0, 0); ok || m != code {
		t.Error(m)
	}
}

// P12.1: what is in a set, whatever the schema.
func TestHas(t *testing.T) {
	m := api.Marks{1, 0, 65535, 2, 0, 1000, 0, 7}
	if l := List(m); !slices.Equal(l, [][2]int{{0, 0}, {2, 65534}, {3, 1}, {5, 999}, {7, 6}}) {
		t.Error(l)
	}
	if l := List(api.Marks{}); len(l) != 0 {
		t.Error(l)
	}
	for mark, want := range map[int]int{0: 0, 1: -1, 2: 65534, 3: 1, 4: -1, 5: 999, 6: -1, 7: 6, 8: -1, -1: -1, 1 << 32: -1, 256: -1, -1 << 63: -1, 1<<63 - 1: -1} {
		value, ok := Has(m, mark)
		if ok != (want >= 0) || value != max(want, 0) {
			t.Errorf("%d: %d, %v", mark, value, ok)
		}
	}
}

// P12.1: which sets may be.
func TestRight(t *testing.T) {
	s := plain(t)
	for m, want := range map[api.Marks]bool{
		{}: true, {1}: true, {2}: false, {1000}: false, {65535}: false, {0, 1}: true, {0, 10}: true, {0, 11}: false, {0, 65535}: false, {1, 10}: true, {2, 10}: false, {0, 0, 1}: true, {0, 0, 2}: false,
		{1, 0, 1}: false, {0, 1, 1}: false, {0, 5, 1}: false, {1, 1, 1}: false, {0, 0, 0, 1}: false, {0, 0, 0, 0, 0, 0, 0, 1}: false, {1, 1, 0, 0, 0, 0, 0, 65535}: false, {0, 0, 1, 1}: false,
	} {
		if Right(s, m) != want {
			t.Errorf("%v", m)
		}
		if w, ok := Show(s, m); ok != want || !ok && w != "" {
			t.Errorf("%v: %q, %v", m, w, ok)
		}
	}
	// What bars only one way bars, wherever it stands.
	s = made(t, "mark b bars=code", "mark a", "mark code")
	if Right(s, api.Marks{1, 0, 1}) || !Right(s, api.Marks{1, 1}) || !Right(s, api.Marks{0, 1, 1}) {
		t.Error("b bars code alone")
	}
}

// P12.1: which marks may be in a type; values and bars aren't asked.
func TestWithin(t *testing.T) {
	s := plain(t)
	for m, want := range map[api.Marks]string{
		{}: "!!!!", {1}: ".!!.", {65535}: ".!!.", {0, 1}: ".!..", {1, 1}: ".!..", {1, 0, 1}: ".!!.", {0, 0, 9}: ".!!.", {0, 0, 0, 1}: "....", {1, 0, 0, 0, 0, 0, 0, 1}: "....",
	} {
		got := ""
		for kind := range 4 {
			got += map[bool]string{true: "!", false: "."}[Within(s, kind, m)]
		}
		if got != want {
			t.Errorf("%v: %s", m, got)
		}
	}
	for _, kind := range []int{-1 << 63, -1, 4, 5, 1 << 32, 1<<32 + 1, 1<<63 - 1} {
		if Within(s, kind, api.Marks{1}) || !Within(s, kind, api.Marks{}) {
			t.Error(kind)
		}
	}
}

// P12.2: what is added, and what isn't.
func TestAdd(t *testing.T) {
	s := made(t, "mark b", "mark i val=9", "mark code bars=*", "mark out bars=b,i", "mark in bars=out")
	for _, x := range []struct {
		m           api.Marks
		mark, value int
		want        api.Marks
		ok          bool
	}{
		{api.Marks{}, 0, 0, api.Marks{1}, true},
		{api.Marks{1}, 0, 0, api.Marks{1}, true},
		{api.Marks{}, 0, 1, api.Marks{}, false},
		{api.Marks{}, 0, -1, api.Marks{}, false},
		{api.Marks{}, 1, 9, api.Marks{0, 10}, true},
		{api.Marks{0, 4}, 1, 0, api.Marks{0, 1}, true},
		{api.Marks{0, 4}, 1, 10, api.Marks{0, 4}, false},
		{api.Marks{0, 4}, 1, 1<<32 + 3, api.Marks{0, 4}, false},
		{api.Marks{0, 4}, 1, 65539, api.Marks{0, 4}, false},
		{api.Marks{0, 4}, 1, -1 << 63, api.Marks{0, 4}, false},
		{api.Marks{0, 4}, 1, 1<<63 - 1, api.Marks{0, 4}, false},
		{api.Marks{1, 4}, 5, 0, api.Marks{1, 4}, false},
		{api.Marks{1, 4}, -1, 0, api.Marks{1, 4}, false},
		{api.Marks{1, 4}, 8, 0, api.Marks{1, 4}, false},
		{api.Marks{1, 4}, 1 << 32, 0, api.Marks{1, 4}, false},
		{api.Marks{1, 4}, -1 << 63, 0, api.Marks{1, 4}, false},
		{api.Marks{1, 4}, 1<<63 - 1, 0, api.Marks{1, 4}, false},
		{api.Marks{1, 4}, 2, 0, api.Marks{0, 0, 1}, true},
		{api.Marks{0, 0, 1}, 0, 0, api.Marks{0, 0, 1}, false},
		{api.Marks{0, 0, 1}, 3, 0, api.Marks{0, 0, 1}, false},
		{api.Marks{1, 4}, 3, 0, api.Marks{0, 0, 0, 1}, true},
		{api.Marks{0, 0, 0, 1}, 1, 3, api.Marks{0, 0, 0, 1}, false},
		{api.Marks{1, 4}, 4, 0, api.Marks{1, 4, 0, 0, 1}, true},
		{api.Marks{0, 0, 0, 1}, 4, 0, api.Marks{0, 0, 0, 0, 1}, true},
		{api.Marks{1, 4, 0, 0, 1}, 3, 0, api.Marks{1, 4, 0, 0, 1}, false},
		// Sets that may not be: what isn't barred stays.
		{api.Marks{9, 99, 0, 0, 0, 0, 0, 5}, 4, 0, api.Marks{9, 99, 0, 0, 1, 0, 0, 5}, true},
		{api.Marks{9, 99, 0, 0, 0, 0, 0, 5}, 2, 0, api.Marks{0, 0, 1, 0, 0, 0, 0, 5}, true},
		{api.Marks{9, 99, 0, 0, 0, 0, 0, 5}, 0, 0, api.Marks{1, 99, 0, 0, 0, 0, 0, 5}, true},
		{api.Marks{9, 99, 0, 1, 0, 0, 0, 5}, 1, 0, api.Marks{9, 99, 0, 1, 0, 0, 0, 5}, false},
	} {
		was := x.m
		if m, ok := Add(s, x.m, x.mark, x.value); ok != x.ok || m != x.want || x.m != was {
			t.Errorf("%d=%d added to %v: %v, %v", x.mark, x.value, x.m, m, ok)
		}
	}
	// Two that bar each other: the one that is added stays.
	s = made(t, "mark b bars=code", "mark code bars=b")
	if m, ok := Add(s, api.Marks{1}, 1, 0); !ok || m != (api.Marks{0, 1}) {
		t.Error(m, ok)
	}
	if m, ok := Add(s, api.Marks{0, 1}, 0, 0); !ok || m != (api.Marks{1}) {
		t.Error(m, ok)
	}
}

// P12.2: what is removed, and what isn't.
func TestRemove(t *testing.T) {
	m := api.Marks{1, 4, 0, 0, 0, 0, 0, 65535}
	for _, x := range []struct {
		mark, value int
		want        api.Marks
		ok          bool
	}{
		{0, 0, api.Marks{0, 4, 0, 0, 0, 0, 0, 65535}, true},
		{1, 3, api.Marks{1, 0, 0, 0, 0, 0, 0, 65535}, true},
		{7, 65534, api.Marks{1, 4}, true},
		{0, 1, m, false}, {0, -1, m, false}, {1, 4, m, false}, {1, 0, m, false}, {1, 2, m, false}, {1, 65539, m, false}, {1, 1<<32 + 3, m, false},
		{2, 0, m, false}, {2, -1, m, false}, {7, -2, m, false}, {8, 0, m, false}, {-1, 0, m, false}, {256, 0, m, false}, {1 << 32, 0, m, false}, {-1 << 63, 0, m, false}, {1<<63 - 1, 0, m, false},
	} {
		if got, ok := Remove(m, x.mark, x.value); ok != x.ok || got != x.want {
			t.Errorf("%d=%d removed: %v, %v", x.mark, x.value, got, ok)
		}
	}
	if got, ok := Remove(api.Marks{}, 0, -1); ok || got != (api.Marks{}) {
		t.Error(got)
	}
}

// P12.3: words, and each error, the first one from the left.
func TestParse(t *testing.T) {
	s := made(t, "mark b", "mark i val=9", "mark code bars=*", "mark a12345678901 val=999")
	for w, want := range map[string]api.Marks{
		"": {}, "b": {1}, "i": {0, 1}, "i=1": {0, 2}, "i=9": {0, 10}, "b+i": {1, 1}, "b+i=7": {1, 8}, "code": {0, 0, 1}, "a12345678901=999": {0, 0, 0, 1000}, "b+i=3+a12345678901=10": {1, 4, 0, 11},
	} {
		if m, e := Parse(s, w); e != api.OK || m != want {
			t.Errorf("%q: %v, %v", w, m, e)
		}
		if back, ok := Show(s, want); !ok || back != w {
			t.Errorf("%v: %q, %v", want, back, ok)
		}
	}
	for w, want := range map[string]api.Errno{
		"+": api.ErrForm, "+b": api.ErrForm, "b+": api.ErrForm, "b++i": api.ErrForm, " ": api.ErrForm, "b ": api.ErrForm, " b": api.ErrForm, "b i": api.ErrForm, "B": api.ErrForm, "1b": api.ErrForm, "b_": api.ErrForm, "b\n": api.ErrForm, "\u00e4": api.ErrForm, "b\u00e4": api.ErrForm, "\xff": api.ErrForm, ".": api.ErrForm, "*": api.ErrForm, "b,i": api.ErrForm, "b|i": api.ErrForm, "b\x00": api.ErrForm,
		"=": api.ErrForm, "=1": api.ErrForm, "i=": api.ErrForm, "i=0": api.ErrForm, "i=-1": api.ErrForm, "i=+1": api.ErrForm, "i=01": api.ErrForm, "i=1000": api.ErrForm, "i=1=1": api.ErrForm, "i==1": api.ErrForm, "i=x": api.ErrForm, "i= 1": api.ErrForm, "i=1 ": api.ErrForm, "i=4294967297": api.ErrForm, "i=18446744073709551617": api.ErrForm, "i=1.": api.ErrForm, "B=1": api.ErrForm,
		"x": api.ErrNone, "x=1": api.ErrNone, "doc": api.ErrNone, "x=999": api.ErrNone, "x=0": api.ErrForm, "x=1000": api.ErrForm, "abcdefghijkl": api.ErrNone, "abcdefghijklm": api.ErrForm, "a1234567890": api.ErrNone, "a123456789012": api.ErrForm, "text": api.ErrNone,
		"b+b": api.ErrForm, "i+b": api.ErrForm, "i=2+i=3": api.ErrForm, "code+b": api.ErrForm, "i+b=1": api.ErrForm, "b+i+b": api.ErrForm,
		"b=1": api.ErrRange, "i=10": api.ErrRange, "i=999": api.ErrRange, "code=1": api.ErrRange, "b+i=10": api.ErrRange, "b+code=1": api.ErrRange,
		"b+code": api.ErrMark, "i=3+code": api.ErrMark, "code+a12345678901": api.ErrMark, "b+i+code+a12345678901=5": api.ErrMark,
		// The first one from the left.
		"b=1+x": api.ErrRange, "x+b=1": api.ErrNone, "x+B": api.ErrNone, "b=1+B": api.ErrRange, "B+x": api.ErrForm, "x+": api.ErrNone, "b+code+x": api.ErrNone, "b+code+": api.ErrForm, "b+code+i": api.ErrForm, "b+code+a12345678901=1000": api.ErrForm, "i=10+b": api.ErrRange, "b+b+x": api.ErrForm, "b+x+b": api.ErrNone,
	} {
		if m, e := Parse(s, w); e != want || m != (api.Marks{}) {
			t.Errorf("%q: %v, %v", w, m, e)
		}
	}
	for _, c := range []string{"b", "+", "b+", "=", "1", "i=1", "\xff"} {
		if m, e := Parse(s, strings.Repeat(c, 70000)); e != api.ErrForm || m != (api.Marks{}) {
			t.Error(c, m, e)
		}
	}
}

// P1, P12: of a nil schema.
func TestNil(t *testing.T) {
	for _, m := range []api.Marks{{}, {1}, {0, 0, 0, 0, 0, 0, 0, 65535}} {
		if Right(nil, m) || Within(nil, 0, m) || Within(nil, 1, m) {
			t.Error(m)
		}
		if w, ok := Show(nil, m); w != "" || ok {
			t.Error(w, ok)
		}
		if got, ok := Add(nil, m, 0, 0); got != m || ok {
			t.Error(got, ok)
		}
	}
	for _, w := range []string{"", "b", "+"} {
		if m, e := Parse(nil, w); m != (api.Marks{}) || e != api.ErrNil {
			t.Error(m, e)
		}
	}
}

// piece is how a mark stands in a word.
var piece = regexp.MustCompile(`^([a-z][a-z0-9]{0,11})(=([1-9][0-9]{0,2}))?$`)

// told is marks that tests know by their own lists.
type told struct {
	names  []string
	values []int
	bars   [8][8]bool
}

// may tells whether a set may be.
func (o told) may(m api.Marks) bool {
	for i := range m {
		if m[i] > 0 && (i >= len(o.names) || int(m[i]) > o.values[i]+1) {
			return false
		}
		for k := range i {
			if m[i] > 0 && m[k] > 0 && (o.bars[i][k] || o.bars[k][i]) {
				return false
			}
		}
	}
	return true
}

// parsed is what Parse should answer.
func (o told) parsed(w string) (api.Marks, api.Errno) {
	var m api.Marks
	if w == "" {
		return m, api.OK
	}
	last := -1
	for _, p := range strings.Split(w, "+") {
		found := piece.FindStringSubmatch(p)
		if found == nil {
			return api.Marks{}, api.ErrForm
		}
		mark, value := slices.Index(o.names, found[1]), 0
		if found[3] != "" {
			value, _ = strconv.Atoi(found[3])
		}
		if mark < 0 {
			return api.Marks{}, api.ErrNone
		}
		if mark <= last {
			return api.Marks{}, api.ErrForm
		}
		if value > o.values[mark] {
			return api.Marks{}, api.ErrRange
		}
		m[mark], last = uint16(value+1), mark
	}
	if !o.may(m) {
		return api.Marks{}, api.ErrMark
	}
	return m, api.OK
}

// byChance is a schema of marks by chance, and what is told of them.
func byChance(t *testing.T, chance *rand.Rand) (*schema.Schema, told) {
	t.Helper()
	o := told{names: []string{"b", "c", "code", "d1", "e", "f", "g", "h"}[:3+chance.IntN(6)]}
	var l []string
	for i, name := range o.names {
		o.values = append(o.values, []int{0, 1, 2, 999}[chance.IntN(4)])
		o.bars[i][i] = true
		line := "mark " + name + " val=" + strconv.Itoa(o.values[i])
		var barred []string
		whole := chance.IntN(6) == 0
		for k, other := range o.names {
			if whole || chance.IntN(5) == 0 {
				o.bars[i][k] = true
				barred = append(barred, other)
			}
		}
		if whole {
			barred = []string{"*"}
		}
		if len(barred) > 0 {
			line += " bars=" + strings.Join(barred, ",")
		}
		l = append(l, line)
	}
	return made(t, l...), o
}

// setByChance is a set that may be, mostly.
func setByChance(chance *rand.Rand, o told) api.Marks {
	var m api.Marks
	for range chance.IntN(6) {
		was, i := m, chance.IntN(len(o.names))
		m[i] = uint16(1 + chance.IntN(o.values[i]+1))
		if !o.may(m) && chance.IntN(20) > 0 {
			m = was
		}
	}
	if chance.IntN(30) == 0 {
		m[chance.IntN(8)] = uint16(chance.IntN(65536))
	}
	return m
}

// checkShown holds a set's word against the set.
func checkShown(t *testing.T, s *schema.Schema, o told, m api.Marks) string {
	t.Helper()
	w, ok := Show(s, m)
	if Right(s, m) != o.may(m) || ok != o.may(m) || !ok && w != "" {
		t.Fatalf("%+v: %v is shown as %q, %v", o, m, w, ok)
	}
	if back, e := Parse(s, w); ok && (e != api.OK || back != m) {
		t.Fatalf("%+v: %v is shown as %q, parsed as %v, %v", o, m, w, back, e)
	}
	return w
}

// checkAdded holds what is added against what was told.
func checkAdded(t *testing.T, s *schema.Schema, o told, m api.Marks, mark, value int) {
	t.Helper()
	want, may := m, mark >= 0 && mark < len(o.names) && value >= 0 && value <= o.values[mark]
	for i := 0; may && i < len(m); i++ {
		if m[i] > 0 && i != mark && o.bars[i][mark] && !o.bars[mark][i] {
			want, may = m, false
		} else if o.bars[mark][i] {
			want[i] = 0
		}
	}
	if may {
		want[mark] = uint16(value + 1)
	}
	got, ok := Add(s, m, mark, value)
	if ok != may || got != want || o.may(m) && !Right(s, got) {
		t.Fatalf("%+v: %d=%d added to %v: %v, %v", o, mark, value, m, got, ok)
	}
	if !ok {
		return
	}
	if again, ok := Add(s, got, mark, value); !ok || again != got {
		t.Fatalf("%+v: %d=%d added to %v once more: %v, %v", o, mark, value, got, again, ok)
	}
	less := got
	less[mark] = 0
	if back, ok := Remove(got, mark, value); !ok || back != less {
		t.Fatalf("%d=%d removed from %v: %v, %v", mark, value, got, back, ok)
	}
	if back, ok := Remove(got, mark, value+1); ok || back != got {
		t.Fatalf("%d=%d removed from %v: %v, %v", mark, value+1, got, back, ok)
	}
}

// P12.1 to P12.4: marks and sets by chance, shown, changed, and added to.
func TestByChance(t *testing.T) {
	chance := rand.New(rand.NewPCG(12, 4))
	counts := map[api.Errno]int{}
	for range 400 {
		s, o := byChance(t, chance)
		for range 60 {
			m := setByChance(chance, o)
			w := checkShown(t, s, o, m)
			checkAdded(t, s, o, m, chance.IntN(10)-1, chance.IntN(4)-1)
			pieces := strings.Split(w, "+")
			for range chance.IntN(3) {
				more := []string{"b", "c=1", "d1=2", "code", "h", "e=999", "x", "b=1000", "c=0", "", "f=", "D"}
				pieces = slices.Insert(pieces, chance.IntN(len(pieces)+1), more[chance.IntN(len(more))])
			}
			w = strings.Join(pieces, "+")
			want, e := o.parsed(w)
			if got, f := Parse(s, w); f != e || got != want {
				t.Fatalf("%+v: %q is parsed as %v, %v, not %v, %v", o, w, got, f, want, e)
			}
			counts[e]++
		}
	}
	if len(counts) != 5 {
		t.Error(counts)
	}
}

// P12.3: all words of a few bytes.
func TestAllWords(t *testing.T) {
	s := made(t, "mark b val=2", "mark c", "mark code", "mark d bars=b")
	o := told{names: []string{"b", "c", "code", "d"}, values: []int{2, 0, 0, 0}}
	o.bars[3][0] = true
	check := func(w string) {
		want, e := o.parsed(w)
		got, f := Parse(s, w)
		if f != e || got != want {
			t.Fatalf("%q is parsed as %v, %v, not %v, %v", w, got, f, want, e)
		}
		if back, ok := Show(s, got); f == api.OK && (!ok || back != w) {
			t.Fatalf("%q is shown as %q", w, back)
		}
	}
	for i := range 65536 {
		check(string([]byte{byte(i >> 8), byte(i)}))
		check("b+" + string([]byte{byte(i >> 8), byte(i)}))
	}
	for i := range 256 {
		check(string([]byte{byte(i)}))
	}
	const some = "bcdx+=0129"
	for n := range 7 {
		count := 1
		for range n {
			count *= len(some)
		}
		for i := range count {
			w := make([]byte, n)
			for k := range w {
				w[k], i = some[i%len(some)], i/len(some)
			}
			check(string(w))
		}
	}
}
