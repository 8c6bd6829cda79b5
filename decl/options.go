package decl

import (
	"slices"
	"strings"

	"stet/api"
	"stet/words"
)

const (
	// all stands for a list of all names.
	all = "*"
	// between stands between the names of a list.
	between = ","
	// mostGroups is of how many groups a node may be.
	mostGroups = 4
)

// option is a word that may stand behind the name of a node or a mark: its head, and what is behind that.
type option[T any] struct {
	head string
	// most is how often it may stand in a line.
	most int
	// read lays down what the word says, of what is behind its head; false, if that may not stand there.
	read func(*T, string) bool
	// show is what stands behind the heads of the words that say what is laid down.
	show func(*T) []string
}

// nodeOptions are a node's options, in the order in which they are shown.
func nodeOptions() []option[Node] {
	return []option[Node]{
		{"group=", mostGroups, (*Node).readGroup, (*Node).showGroups},
		{"inline", 1, (*Node).readInline, (*Node).showInline},
		{"pick", 1, (*Node).readPick, (*Node).showPick},
		{"attr=", 1, (*Node).readAttr, (*Node).showAttr},
		{"marks=", 1, (*Node).readMarks, (*Node).showMarks},
	}
}

// markOptions are a mark's options, in the order in which they are shown.
func markOptions() []option[Mark] {
	return []option[Mark]{
		{"val=", 1, (*Mark).readValue, (*Mark).showValue},
		{"bars=", 1, (*Mark).readBars, (*Mark).showBars},
	}
}

// readOptions lays down what words say; false, if one of them is no option, or stands too often.
func readOptions[T any](one *T, options []option[T], l []string) bool {
	counts := make([]int, len(options))
	for _, w := range l {
		i := slices.IndexFunc(options, func(o option[T]) bool { return strings.HasPrefix(w, o.head) })
		if i < 0 || counts[i] == options[i].most || !options[i].read(one, w[len(options[i].head):]) {
			return false
		}
		counts[i]++
	}
	return true
}

// showOptions is the words of the options, behind other words.
func showOptions[T any](one *T, options []option[T], l ...string) []string {
	for _, o := range options {
		for _, rest := range o.show(one) {
			l = append(l, o.head+rest)
		}
	}
	return l
}

func (n *Node) readGroup(w string) bool {
	if !isName(w) || slices.Contains(n.Groups, w) {
		return false
	}
	n.Groups = append(n.Groups, w)
	return true
}

func (n *Node) readInline(w string) bool { return readFlag(&n.Inline, w) }
func (n *Node) readPick(w string) bool   { return readFlag(&n.Pick, w) }
func (n *Node) readAttr(w string) bool   { return readNumber(&n.Attr, w) }
func (n *Node) readMarks(w string) bool  { return readList(&n.All, &n.Marks, w) }
func (m *Mark) readValue(w string) bool  { return readNumber(&m.Value, w) }
func (m *Mark) readBars(w string) bool   { return readList(&m.All, &m.Bars, w) }

func (n *Node) showGroups() []string { return n.Groups }
func (n *Node) showInline() []string { return showFlag(n.Inline) }
func (n *Node) showPick() []string   { return showFlag(n.Pick) }
func (n *Node) showAttr() []string   { return showNumber(n.Attr) }
func (n *Node) showMarks() []string  { return showList(n.All, n.Marks) }
func (m *Mark) showValue() []string  { return showNumber(m.Value) }
func (m *Mark) showBars() []string   { return showList(m.All, m.Bars) }

// readFlag reads an option that says all by its head.
func readFlag(flag *bool, w string) bool {
	*flag = true
	return w == ""
}

func showFlag(flag bool) []string {
	if !flag {
		return nil
	}
	return []string{""}
}

func readNumber(number *int, w string) bool {
	n, ok := words.Num(w)
	*number = n
	return ok && n >= 0 && n <= api.MaxValue
}

func showNumber(n int) []string {
	if n == 0 {
		return nil
	}
	return []string{words.Show(n)}
}

// readList reads names that are unlike, or that all are meant.
func readList(whole *bool, names *[]string, w string) bool {
	if w == all {
		*whole = true
		return true
	}
	seen := map[string]bool{}
	for name := range strings.SplitSeq(w, between) {
		if !isName(name) || seen[name] {
			return false
		}
		seen[name] = true
		*names = append(*names, name)
	}
	return true
}

func showList(whole bool, names []string) []string {
	switch {
	case whole:
		return []string{all}
	case len(names) == 0:
		return nil
	}
	return []string{strings.Join(names, between)}
}
