package diff

import (
	"slices"
	"strings"
	"testing"

	"stet/api"
	"stet/patch"
	"stet/step"
	"stet/token"
)

// text are letters.
func text(letters string) []api.Token { return token.Text([]rune(letters)...) }

// samePart tells whether two parts are the same.
func samePart(a, b patch.Part) bool {
	return a.Old == b.Old && a.From == b.From && a.To == b.To && token.Same(a.New, b.New)
}

// right holds parts against what the chapter says of those that make b of a.
func right(t *testing.T, a, b []api.Token, parts []patch.Part) {
	t.Helper()
	var made []api.Token
	at := 0
	for i, p := range parts {
		ahead := patch.Part{From: -1, To: -1}
		if i > 0 {
			ahead = parts[i-1]
		}
		switch {
		case p.Old && (p.From < at || p.From >= p.To || p.To > len(a) || p.New != nil):
			t.Fatalf("%d of %v: no stretch", i, parts)
		case p.Old && ahead.Old && ahead.To == p.From:
			t.Fatalf("%d of %v goes on", i, parts)
		case !p.Old && (len(p.New) == 0 || p.From != 0 || p.To != 0 || i > 0 && !ahead.Old):
			t.Fatalf("%d of %v isn't new", i, parts)
		}
		if p.Old {
			made, at = append(made, a[p.From:p.To]...), p.To
		}
		made = append(made, p.New...)
	}
	if !token.Same(made, b) {
		t.Fatalf("%v, not %v", made, b)
	}
}

// P30.1: the splice that makes one row of another one.
func TestOne(t *testing.T) {
	for _, x := range []struct {
		a, b     string
		from, to int
		row      string
	}{
		{"abcd", "abxd", 2, 3, "x"}, {"", "abc", 0, 0, "abc"}, {"abc", "", 0, 3, ""}, {"abc", "xyz", 0, 3, "xyz"}, {"abc", "ab", 2, 3, ""}, {"abc", "bc", 0, 1, ""}, {"ab", "abc", 2, 2, "c"}, {"bc", "abc", 0, 0, "a"}, {"abc", "axbyc", 1, 2, "xby"}, {"abxcd", "aybzd", 1, 4, "ybz"},
		// As many ahead as can be, and of the others as many behind.
		{"aaa", "aaaa", 3, 3, "a"}, {"aaaa", "aaa", 3, 4, ""}, {"aaaaa", "aa", 2, 5, ""}, {"abab", "ab", 2, 4, ""}, {"ab", "abab", 2, 2, "ab"}, {"abcab", "ab", 2, 5, ""}, {"abcbc", "abc", 3, 5, ""}, {"aba", "a", 1, 3, ""}, {"aba", "aa", 1, 2, ""}, {"aa", "aba", 1, 1, "b"}, {"abba", "aba", 2, 3, ""}, {"xaay", "xay", 2, 3, ""}, {"xay", "xaay", 2, 2, "a"}, {"bab", "b", 1, 3, ""}, {"ba", "a", 0, 1, ""},
	} {
		y, ok := One(text(x.a), text(x.b))
		if want := (api.Step{Kind: api.Splice, From: x.from, To: x.to, Slice: text(x.row)}); !ok || !step.Same(y, want) {
			t.Errorf("%q and %q: %+v, %v", x.a, x.b, y, ok)
		}
	}
	for _, l := range [][]api.Token{nil, {}, text("a"), text("abcabc"), {{Kind: 77, Attr: -5}}} {
		if y, ok := One(l, slices.Clone(l)); ok || !step.Same(y, api.Step{}) {
			t.Error(l, y, ok)
		}
	}
	if y, ok := One(nil, []api.Token{}); ok || !step.Same(y, api.Step{}) {
		t.Error(y, ok)
	}
}

// P30.2: parts, where there is one way alone.
func TestParts(t *testing.T) {
	for _, x := range []struct {
		a, b string
		want []patch.Part
	}{
		{"", "", nil}, {"abc", "", nil}, {"", "abc", []patch.Part{patch.Put(text("abc")...)}}, {"abc", "abc", []patch.Part{patch.Keep(0, 3)}}, {"abc", "xy", []patch.Part{patch.Put(text("xy")...)}}, {"a", "x", []patch.Part{patch.Put(text("x")...)}},
		{"abcd", "abxd", []patch.Part{patch.Keep(0, 2), patch.Put(text("x")...), patch.Keep(3, 4)}},
		// One old part isn't as long as what stands there in a, if something new stands within.
		{"abcd", "abxcd", []patch.Part{patch.Keep(0, 2), patch.Put(text("x")...), patch.Keep(2, 4)}}, {"abcd", "acd", []patch.Part{patch.Keep(0, 1), patch.Keep(2, 4)}}, {"abcd", "ab", []patch.Part{patch.Keep(0, 2)}}, {"abcd", "cd", []patch.Part{patch.Keep(2, 4)}}, {"abcd", "bc", []patch.Part{patch.Keep(1, 3)}},
		{"abcdef", "bdf", []patch.Part{patch.Keep(1, 2), patch.Keep(3, 4), patch.Keep(5, 6)}}, {"bdf", "abcdefg", []patch.Part{patch.Put(text("a")...), patch.Keep(0, 1), patch.Put(text("c")...), patch.Keep(1, 2), patch.Put(text("e")...), patch.Keep(2, 3), patch.Put(text("g")...)}},
		{"abcdef", "abXYdefZ", []patch.Part{patch.Keep(0, 2), patch.Put(text("XY")...), patch.Keep(3, 6), patch.Put(text("Z")...)}}, {"PQabR", "ab", []patch.Part{patch.Keep(2, 4)}}, {"PQabRcS", "XabYcZ", []patch.Part{patch.Put(text("X")...), patch.Keep(2, 4), patch.Put(text("Y")...), patch.Keep(5, 6), patch.Put(text("Z")...)}},
	} {
		got := Parts(text(x.a), text(x.b))
		if right(t, text(x.a), text(x.b), got); !slices.EqualFunc(got, x.want, samePart) {
			t.Errorf("%q and %q: %v, not %v", x.a, x.b, got, x.want)
		}
	}
}

// P30.2: as many tokens are kept as can be, where there are several ways.
func TestMost(t *testing.T) {
	for _, x := range []struct {
		a, b string
		kept int
	}{
		{"abcabba", "cbabac", 4}, {"kitten", "sitting", 4}, {"aaa", "aa", 2}, {"aa", "aaa", 2}, {"ab", "ba", 1}, {"abcdefgh", "hgfedcba", 1}, {"abc", "cab", 2}, {"abab", "baba", 3}, {"xaxbxcx", "yaybycy", 3}, {"abcbdab", "bdcaba", 4},
		// What is kept at the begin by chance isn't all.
		{"aXbcdefg", "bcdefgaY", 6}, {"abcdefghXY", "XYabcdefgh", 8}, {"XYabcdefgh", "abcdefghXY", 8},
	} {
		parts := Parts(text(x.a), text(x.b))
		if right(t, text(x.a), text(x.b), parts); Kept(parts) != x.kept {
			t.Errorf("%q and %q: %d, not %d: %v", x.a, x.b, Kept(parts), x.kept, parts)
		}
	}
}

// P30.1, P30.2: tokens are the same if all of them is.
func TestTokens(t *testing.T) {
	one := api.Token{Kind: api.Char, Type: 1, Attr: 2, Rune: 'a', Marks: api.Marks{1}}
	for i, change := range []func(x *api.Token){func(x *api.Token) { x.Kind-- }, func(x *api.Token) { x.Type += 1 << 32 }, func(x *api.Token) { x.Attr = -2 }, func(x *api.Token) { x.Rune++ }, func(x *api.Token) { x.Marks[0] = 257 }, func(x *api.Token) { x.Marks[7] = 1 }} {
		other := one
		change(&other)
		a, b := []api.Token{one, one, one}, []api.Token{one, other, one}
		y, ok := One(a, b)
		if want := (api.Step{Kind: api.Splice, From: 1, To: 2, Slice: b[1:2]}); !ok || !step.Same(y, want) {
			t.Error(i, y, ok)
		}
		if got, want := Parts(a, b), []patch.Part{patch.Keep(0, 1), patch.Put(other), patch.Keep(2, 3)}; !slices.EqualFunc(got, want, samePart) {
			t.Error(i, got)
		}
	}
}

// P30.2: how many tokens old parts have.
func TestKept(t *testing.T) {
	few := patch.Put(text("abcdefg")...)
	odd := few
	odd.From, odd.To = 3, 9
	both := patch.Part{Old: true, From: 2, To: 6, New: text("abcdefg")}
	for i, x := range []struct {
		parts []patch.Part
		want  int
	}{
		{nil, 0}, {[]patch.Part{}, 0}, {[]patch.Part{{}}, 0}, {[]patch.Part{patch.Keep(0, 5)}, 5}, {[]patch.Part{patch.Keep(7, 9), patch.Keep(3, 4)}, 3}, {[]patch.Part{patch.Keep(3, 3)}, 0}, {[]patch.Part{few}, 0}, {[]patch.Part{odd}, 0}, {[]patch.Part{both, few, odd, both}, 8},
		// Of one whose To is below its From none, whatever others have.
		{[]patch.Part{patch.Keep(9, 2)}, 0}, {[]patch.Part{patch.Keep(9, 2), patch.Keep(0, 5)}, 5}, {[]patch.Part{patch.Keep(0, 5), patch.Keep(5, 4), patch.Keep(1<<63-1, -1<<63)}, 5}, {[]patch.Part{patch.Keep(-5, -3), patch.Keep(-1, 1)}, 4}, {[]patch.Part{patch.Keep(0, 1<<40), patch.Keep(0, 1<<40)}, 1 << 41},
	} {
		if got := Kept(x.parts); got != x.want {
			t.Error(i, got)
		}
	}
}

// P30.2: as many are kept as can be if 400 tokens differ, even if one comes farther by other ways at first.
func TestFourHundred(t *testing.T) {
	c := make([]rune, 50)
	for i := range c {
		c[i] = rune(1000 + i)
	}
	others := make([]rune, 395)
	for i := range others {
		others[i] = rune(2000 + i)
	}
	// Those at 30 to 33 come early, too: who keeps them there has few of the others.
	a := token.Text(slices.Concat(others[:1], c[30:34], others[1:], c, []rune{9})...)
	b := token.Text(c...)
	for _, x := range [][2][]api.Token{{a, b}, {b, a}} {
		parts := Parts(x[0], x[1])
		if right(t, x[0], x[1], parts); len(x[0])+len(x[1])-2*Kept(parts) != 400 {
			t.Error(Kept(parts))
		}
	}
}

// P30.1, P30.2: long rows of which much differs, and of which all does, end soon; their ends are kept.
func TestLong(t *testing.T) {
	row := func(n, first, by int) []api.Token {
		var l []api.Token
		for i := range n {
			l = append(l, api.Token{Kind: api.Char, Rune: rune(first + i*by%9973)})
		}
		return l
	}
	ahead, behind := text("begin"), text("end")
	around := func(l []api.Token) []api.Token { return slices.Concat(ahead, l, behind) }
	for i, x := range []struct {
		a, b []api.Token
		kept int
	}{
		{row(20000, 0, 1), row(20000, 20000, 1), 0}, {row(20000, 0, 1), nil, 0}, {nil, row(20000, 0, 1), 0}, {row(20000, 0, 1), row(20000, 0, 1), 20000},
		// All of a is behind b's others, or the other way: nothing but that can be kept.
		{row(3000, 0, 1), slices.Concat(row(3000, 20000, 1), row(3000, 0, 1)), 3000}, {slices.Concat(row(3000, 20000, 1), row(3000, 0, 1)), row(3000, 0, 1), 3000}, {text(strings.Repeat("ab", 5000)), text(strings.Repeat("ba", 5000)), 9999}, {text(strings.Repeat("a", 10000)), text(strings.Repeat("ab", 10000)), 10000},
		{row(5000, 0, 37), row(5000, 0, 41), 1}, {row(200000, 0, 7), row(3, 20000, 1), 0},
	} {
		for _, y := range [][2][]api.Token{{x.a, x.b}, {around(x.a), around(x.b)}} {
			parts := Parts(y[0], y[1])
			right(t, y[0], y[1], parts)
			if got := Kept(parts) - (len(y[0]) - len(x.a)); got < x.kept {
				t.Errorf("%d: %d are kept", i, got)
			}
		}
	}
	// Where some differ at each of many places, most stays.
	a := row(20000, 0, 1)
	b := slices.Clone(a)
	for at := 5; at < len(b); at += 10 {
		b[at].Rune = 30000
	}
	parts := Parts(a, b)
	if right(t, a, b, parts); Kept(parts) != 18000 {
		t.Error(Kept(parts))
	}
	if y, ok := One(a, b); !ok || y.From != 5 || y.To != 19996 || len(y.Slice) != 19991 {
		t.Error(y.From, y.To, ok)
	}
}

// P3, P6: rows stay as they are, spare room too, and aren't kept; what is answered is new.
func TestStays(t *testing.T) {
	roomA, roomB := text("abcdefghijXXX"), text("aXcdYZfhijKXXX")
	wasA, wasB := slices.Clone(roomA), slices.Clone(roomB)
	a, b := roomA[:10], roomB[:11]
	parts := Parts(a, b)
	one, _ := One(a, b)
	for range 2 {
		got := Parts(a, b)
		y, ok := One(a, b)
		if !slices.EqualFunc(got, parts, samePart) || !ok || !step.Same(y, one) {
			t.Fatal(got, y, ok)
		}
		for i, p := range got {
			_ = append(p.New, api.Token{Kind: 9})
			clear(p.New)
			if i+2 < len(got) && len(got[i+2].New) > 0 && got[i+2].New[0].Kind != api.Char {
				t.Fatal(got)
			}
		}
		_ = append(y.Slice, api.Token{Kind: 9})
		clear(y.Slice)
		if !slices.Equal(roomA, wasA) || !slices.Equal(roomB, wasB) {
			t.Fatal(roomA, roomB)
		}
	}
	Kept(parts)
	again := Parts(a, b)
	clear(roomA)
	clear(roomB)
	if !slices.EqualFunc(again, parts, samePart) {
		t.Error(parts, again)
	}
}
