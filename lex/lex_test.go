package lex

import (
	"math/rand/v2"
	"slices"
	"strings"
	"testing"

	"stet/api"
)

// P5.1: the signs of a text, each with its place.
func TestSigns(t *testing.T) {
	for s, want := range map[string][]Sign{
		"":             nil,
		"   ":          nil,
		"a":            {{Kind: Name, Name: "a"}},
		"z9z":          {{Kind: Name, Name: "z9z"}},
		" a  b ":       {{Kind: Name, At: 1, Name: "a"}, {Kind: Name, At: 4, Name: "b"}},
		"abcdefghijkl": {{Kind: Name, Name: "abcdefghijkl"}},
		"a23456789012": {{Kind: Name, Name: "a23456789012"}},
		"(":            {{Kind: Open}},
		")":            {{Kind: Shut}},
		"|":            {{Kind: Or}},
		"*":            {{Kind: Times, High: -1}},
		"+":            {{Kind: Times, Low: 1, High: -1}},
		"?":            {{Kind: Times, High: 1}},
		"{1}":          {{Kind: Times, Low: 1, High: 1}},
		"{20}":         {{Kind: Times, Low: 20, High: 20}},
		"{0,}":         {{Kind: Times, High: -1}},
		"{20,}":        {{Kind: Times, Low: 20, High: -1}},
		"{0,1}":        {{Kind: Times, High: 1}},
		"{20,20}":      {{Kind: Times, Low: 20, High: 20}},
		"{9,10}":       {{Kind: Times, Low: 9, High: 10}},
		"{1,}{1,1}":    {{Kind: Times, Low: 1, High: -1}, {Kind: Times, At: 4, Low: 1, High: 1}},
		")(*b |":       {{Kind: Shut}, {Kind: Open, At: 1}, {Kind: Times, At: 2, High: -1}, {Kind: Name, At: 3, Name: "b"}, {Kind: Or, At: 5}},
		"a+ (b|c){2,}": {{Kind: Name, Name: "a"}, {Kind: Times, At: 1, Low: 1, High: -1}, {Kind: Open, At: 3}, {Kind: Name, At: 4, Name: "b"}, {Kind: Or, At: 5}, {Kind: Name, At: 6, Name: "c"}, {Kind: Shut, At: 7}, {Kind: Times, At: 8, Low: 2, High: -1}},
	} {
		if l, at, e := Lex(s); !slices.Equal(l, want) || at != 0 || e != api.OK {
			t.Errorf("Lex(%q) = %v, %d, %v", s, l, at, e)
		}
	}
}

// wrong is a wrong text, and what must be answered.
type wrong struct {
	text string
	at   int
	why  api.Errno
}

func checkWrong(t *testing.T, list []wrong) {
	t.Helper()
	for _, w := range list {
		if l, at, e := Lex(w.text); l != nil || at != w.at || e != w.why {
			t.Errorf("Lex(%q) = %v, %d, %v, not %d, %v", w.text, l, at, e, w.at, w.why)
		}
	}
}

// P5.1: ErrForm, at the first byte that may not stand where it does.
func TestForm(t *testing.T) {
	checkWrong(t, []wrong{
		{"a A", 2, api.ErrForm}, {"aA", 1, api.ErrForm}, {"a\tb", 1, api.ErrForm}, {"\n", 0, api.ErrForm}, {"a\x00", 1, api.ErrForm},
		{"a\xc3\xa9", 1, api.ErrForm}, {"\xff", 0, api.ErrForm}, {"\xc4\xa8", 0, api.ErrForm}, {"`", 0, api.ErrForm}, {"a}", 1, api.ErrForm}, {",", 0, api.ErrForm}, {"a-b", 1, api.ErrForm},
		{"1", 0, api.ErrForm}, {"(9", 1, api.ErrForm}, {"a 1", 2, api.ErrForm}, {"a*1", 2, api.ErrForm}, {"a{2}3", 4, api.ErrForm},
		{"abcdefghijklm", 12, api.ErrForm}, {"abcdefghijkl3", 12, api.ErrForm}, {"x abcdefghijklmn", 14, api.ErrForm}, {"abcdefghijklA", 12, api.ErrForm},
		{"a{x", 2, api.ErrForm}, {"a{}", 2, api.ErrForm}, {"a{,2}", 2, api.ErrForm}, {"a{ 2}", 2, api.ErrForm}, {"a{-1}", 2, api.ErrForm}, {"a{*}", 2, api.ErrForm},
		{"a{2 }", 3, api.ErrForm}, {"a{2*", 3, api.ErrForm}, {"a{2,,", 4, api.ErrForm}, {"a{2, 3}", 4, api.ErrForm}, {"a{2,x", 4, api.ErrForm}, {"a{2,3,", 5, api.ErrForm}, {"a{2,3 }", 5, api.ErrForm},
		{"a{02}", 3, api.ErrForm}, {"a{00", 3, api.ErrForm}, {"a{2,03}", 5, api.ErrForm}, {"a{0x", 3, api.ErrForm}, {"a{0/", 3, api.ErrForm}, {"a{0:", 3, api.ErrForm},
		{"a{100}", 4, api.ErrForm}, {"a{999", 4, api.ErrForm}, {"a{210", 4, api.ErrForm}, {"a{2,100", 6, api.ErrForm}, {"a{200000000000000000000000", 4, api.ErrForm},
		{"A{", 0, api.ErrForm}, {"a{x} {", 2, api.ErrForm},
	})
}

// P5.1: ErrEnd, and the length, if a count isn't whole.
func TestEnd(t *testing.T) {
	checkWrong(t, []wrong{
		{"{", 1, api.ErrEnd}, {"a{", 2, api.ErrEnd}, {"a{2", 3, api.ErrEnd}, {"a{20", 4, api.ErrEnd}, {"a{0", 3, api.ErrEnd}, {"a{2,", 4, api.ErrEnd}, {"a{0,", 4, api.ErrEnd}, {"a{2,2", 5, api.ErrEnd}, {"a{2,20", 6, api.ErrEnd}, {"a* b{1", 6, api.ErrEnd},
	})
}

// P5.1: ErrRange, at a number's first byte, as soon as its digits have ended.
func TestRange(t *testing.T) {
	checkWrong(t, []wrong{
		{"a{21}", 2, api.ErrRange}, {"a{21", 2, api.ErrRange}, {"a{21x", 2, api.ErrRange}, {"a{21,", 2, api.ErrRange}, {"a{99", 2, api.ErrRange}, {"a{0}", 2, api.ErrRange}, {"a* {0} A", 4, api.ErrRange},
		{"a{3,2}", 4, api.ErrRange}, {"a{3,2", 4, api.ErrRange}, {"a{3,2x", 4, api.ErrRange}, {"a{0,0}", 4, api.ErrRange}, {"a{0,0", 4, api.ErrRange}, {"a{3,0}", 4, api.ErrRange}, {"a{10,9", 5, api.ErrRange}, {"a{1,21}", 4, api.ErrRange}, {"a{1,21", 4, api.ErrRange}, {"a{20,19}", 5, api.ErrRange},
	})
}

// P5.1: ErrLong, at the first byte of a 201st sign.
func TestLong(t *testing.T) {
	if l, _, e := Lex(strings.Repeat("a ", 200) + "  "); len(l) != 200 || e != api.OK {
		t.Error(len(l), e)
	}
	full, tight := strings.Repeat("a ", 200), strings.Repeat("a*", 100)
	checkWrong(t, []wrong{
		{full + "a", 400, api.ErrLong}, {full + "  abcdefghijklm", 402, api.ErrLong}, {full + "{x", 400, api.ErrLong}, {full + "a A", 400, api.ErrLong},
		{full + "A", 400, api.ErrForm}, {full + "1", 400, api.ErrForm}, {full + "}", 400, api.ErrForm}, {full + " ,", 401, api.ErrForm}, {full[:398] + "a{", 399, api.ErrLong}, {full[:398] + "{", 399, api.ErrEnd},
	})
	for i := range len(singles) {
		checkWrong(t, []wrong{{tight + singles[i:i+1], 200, api.ErrLong}})
	}
}

// P5.2: signs as a text.
func TestShow(t *testing.T) {
	count := func(low, high int) Sign { return Sign{Kind: Times, Low: low, High: high} }
	a := Sign{Kind: Name, Name: "a"}
	for want, l := range map[string][]Sign{
		"":                     nil,
		"a":                    {a},
		"a a":                  {a, a},
		"a* a+ a?":             {a, count(0, -1), a, count(1, -1), a, count(0, 1)},
		"*+":                   {count(0, -1), count(1, -1)},
		"a{1} a{20}":           {a, count(1, 1), a, count(20, 20)},
		"{2,}{1,2}{0,2}":       {count(2, -1), count(1, 2), count(0, 2)},
		"{0}{-1}{-1,1}{-7,-9}": {count(0, 0), count(-1, -1), count(-1, 1), count(-7, -9)},
		"{-9223372036854775808,9223372036854775807}": {count(-1<<63, 1<<63-1)},
		"( a | a )":         {{Kind: Open}, a, {Kind: Or, Low: 3, Name: "x"}, a, {Kind: Shut, At: 7, High: -1}},
		"( ( ) ){3}":        {{Kind: Open}, {Kind: Open}, {Kind: Shut}, {Kind: Shut}, count(3, 3)},
		"No Name \xff":      {{Kind: Name, Name: "No Name \xff", Low: 1, High: 1}},
		" a":                {{Kind: Name}, a},
		"a  a":              {a, {Kind: 6, Name: "x", Low: 1, High: 1}, a},
		"a  *":              {a, {Kind: -1}, {Kind: 1 << 40}, {Kind: Times, High: -1, Name: "x"}},
		"a |":               {a, {Kind: Or}},
		"a{5}{5,6} ( a{5,}": {a, count(5, 5), count(5, 6), {Kind: Open}, a, count(5, -1)},
	} {
		if s := Show(l); s != want {
			t.Errorf("Show(%v) = %q, not %q", l, s, want)
		}
	}
}

// bare is a list of signs without their places.
func bare(l []Sign) []Sign {
	l = slices.Clone(l)
	for i := range l {
		l[i].At = 0
	}
	return l
}

// words tells all texts of up to so many of the bytes of an alphabet.
func words(alphabet string, most int, tell func(s string)) {
	level := []string{""}
	for range most + 1 {
		var longer []string
		for _, s := range level {
			tell(s)
			for i := range len(alphabet) {
				longer = append(longer, s+alphabet[i:i+1])
			}
		}
		level = longer
	}
}

// P5.1, P5.3: of all small texts: what is lexed comes back from what is shown, and what isn't is wrong where it is told, whatever stands behind.
func TestSmallTexts(t *testing.T) {
	check := func(s string) {
		l, at, e := Lex(s)
		switch e {
		case api.OK:
			again, _, f := Lex(Show(l))
			if at != 0 || f != api.OK || !slices.Equal(bare(l), bare(again)) {
				t.Fatalf("%q: %v, then %v", s, l, again)
			}
		case api.ErrEnd:
			done := false
			for _, end := range []string{"}", "9}", ",}", "9,}"} {
				_, _, f := Lex(s + end)
				done = done || f == api.OK
			}
			if !done || at != len(s) {
				t.Fatalf("%q can't be ended, or doesn't end at %d", s, at)
			}
		case api.ErrForm, api.ErrRange:
			for _, more := range []string{"", "}", "0", "a", " ", ",", "A", "\xff"} {
				// A third digit comes ahead of a number that may not be.
				digits := e == api.ErrRange && more == "0"
				if _, place, f := Lex(s + more); !digits && (place != at || f != e) {
					t.Fatalf("%q: %d, %v, but with %q behind %d, %v", s, at, e, more, place, f)
				}
			}
			if _, place, f := Lex(s[:at]); f != api.OK && (f != api.ErrEnd || place != at) && (f != api.ErrRange || s[at] < '0' || s[at] > '9') {
				t.Fatalf("%q: %d, but %q is wrong at %d", s, at, s[:at], place)
			}
		default:
			t.Fatalf("%q: %v", s, e)
		}
	}
	words("a {02,}", 6, check)
	words("a (|*}1A", 4, check)
}

// P5.3: signs by chance are shown, and lexed, as they were.
func TestShownAndLexed(t *testing.T) {
	chance := rand.New(rand.NewPCG(5, 3))
	for range 3000 {
		var l []Sign
		for range chance.IntN(201) {
			sign := Sign{Kind: 1 + chance.IntN(5)}
			switch sign.Kind {
			case Name:
				sign.Name = "abcdefghijkl"[chance.IntN(12):] + "0123"[:chance.IntN(2)]
				sign.Name = sign.Name[:min(len(sign.Name), api.MaxName)]
			case Times:
				sign.Low = chance.IntN(21)
				sign.High = max(sign.Low+chance.IntN(21-sign.Low), 1)
				if chance.IntN(3) == 0 {
					sign.High = -1
				}
			}
			l = append(l, sign)
		}
		again, at, e := Lex(Show(l))
		if e != api.OK || !slices.Equal(bare(again), l) {
			t.Fatalf("%q: %d, %v", Show(l), at, e)
		}
		for i, sign := range again {
			if i > 0 && sign.At <= again[i-1].At {
				t.Fatalf("%q: places %v", Show(l), again)
			}
		}
	}
}
