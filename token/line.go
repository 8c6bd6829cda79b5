package token

import (
	"strings"

	"stet/api"
	"stet/marks"
	"stet/schema"
	"stet/utf"
	"stet/valued"
	"stet/words"
)

const (
	// open begins an open token's word.
	open = "<"
	// shut is a close's word.
	shut = ">"
	// leaf and quote stand behind the marks of a leaf and of letters.
	leaf  = "*"
	quote = `"`
)

// Show is tokens' line.
func Show(s *schema.Schema, l []api.Token) (string, bool) {
	if _, ok := All(s, l); !ok {
		return "", false
	}
	var line []string
	for len(l) > 0 {
		n := first(l)
		line = append(line, word(s, l[:n]))
		l = l[n:]
	}
	return words.Join(line...), true
}

// first is how many tokens have the first word.
func first(l []api.Token) int {
	n := 1
	for continues(l[:n], l[n:]) {
		n++
	}
	return n
}

// continues tells whether letters go on with the same marks from one list to the next one.
func continues(a, b []api.Token) bool {
	if len(a) == 0 || len(b) == 0 {
		return false
	}
	end, begin := a[len(a)-1], b[0]
	return end.Kind == api.Char && begin.Kind == api.Char && end.Marks == begin.Marks
}

// word is the word of a token, or of letters with the same marks, that may be.
func word(s *schema.Schema, l []api.Token) string {
	t := l[0]
	set, _ := marks.Show(s, t.Marks)
	node := valued.Show(s.Name(t.Type), t.Attr)
	switch t.Kind {
	case api.Open:
		return open + node
	case api.Leaf:
		return set + leaf + node
	case api.Char:
		return set + quote + words.Hide(bytes(l))
	}
	return shut
}

// bytes is what letters are written with.
func bytes(l []api.Token) []byte {
	var runes []rune
	for _, t := range l {
		runes = append(runes, t.Rune)
	}
	b, _, _ := utf.Encode(runes)
	return b
}

// Parse is a line's tokens.
func Parse(s *schema.Schema, line string) ([]api.Token, int, api.Errno) {
	if s == nil {
		return nil, 0, api.ErrNil
	}
	list, e := words.Split(line)
	if e != api.OK {
		return nil, 0, e
	}
	var l []api.Token
	for i, w := range list {
		more, e := reader(s, w)()
		switch {
		case e != api.OK:
			return nil, i + 1, e
		case continues(l, more):
			return nil, i + 1, api.ErrForm
		case len(l)+len(more) > api.MaxSize:
			return nil, i + 1, api.ErrLong
		}
		l = append(l, more...)
	}
	return l, 0, api.OK
}

// reader is what reads a word, by what the word is.
func reader(s *schema.Schema, w string) func() ([]api.Token, api.Errno) {
	if w == shut {
		return func() ([]api.Token, api.Errno) { return []api.Token{{Kind: api.Close}}, api.OK }
	}
	if rest, ok := strings.CutPrefix(w, open); ok {
		return func() ([]api.Token, api.Errno) { return readNode(s, api.Open, "", rest) }
	}
	at := strings.IndexAny(w, leaf+quote)
	if at < 0 {
		return func() ([]api.Token, api.Errno) { return nil, api.ErrForm }
	}
	set, rest := w[:at], w[at+1:]
	if w[at:at+1] == leaf {
		return func() ([]api.Token, api.Errno) { return readNode(s, api.Leaf, set, rest) }
	}
	return func() ([]api.Token, api.Errno) { return readLetters(s, set, rest) }
}

// readNode is the token of a kind, of its marks' word, and of what stands behind that.
func readNode(s *schema.Schema, kind int, set, rest string) ([]api.Token, api.Errno) {
	name, attr, ok := valued.Read(rest)
	if !ok {
		return nil, api.ErrForm
	}
	m, e := marks.Parse(s, set)
	t, _ := s.Find(name)
	switch {
	case e != api.OK:
		return nil, e
	case !isNode(s, t):
		return nil, api.ErrNone
	case s.Leaf(t) != (kind == api.Leaf):
		return nil, api.ErrFit
	case attr > s.MaxAttr(t):
		return nil, api.ErrRange
	case !s.Inline(t) && m != api.Marks{}:
		return nil, api.ErrMark
	}
	return []api.Token{{Kind: kind, Type: t, Attr: attr, Marks: m}}, api.OK
}

// readLetters is the tokens of letters, of their marks' word, and of their bytes as a piece.
func readLetters(s *schema.Schema, set, piece string) ([]api.Token, api.Errno) {
	b, e := words.Bare(piece)
	if e != api.OK || piece == "" {
		return nil, api.ErrForm
	}
	m, e := marks.Parse(s, set)
	if e != api.OK {
		return nil, e
	}
	runes, _, e := utf.Decode(b)
	if e != api.OK {
		return nil, e
	}
	return letters(m, runes), api.OK
}
