package regex_test

import (
	"slices"
	"strings"
	"testing"

	"incunable/api"
	"incunable/regex"
)

// mixer makes numbers that look like chance and are always the same.
type mixer uint64

func (m *mixer) next() uint32 {
	*m = *m*6364136223846793005 + 1442695040888963407
	return uint32(*m >> 32)
}

func (m *mixer) below(n int) int {
	return int(m.next() % uint32(n))
}

func (m *mixer) bytes(n int) []byte {
	b := make([]byte, n)
	for i := range b {
		b[i] = byte(m.next())
	}
	return b
}

// text is bytes of some letters.
func (m *mixer) text(letters string, n int) string {
	b := make([]byte, n)
	for i := range b {
		b[i] = letters[m.below(len(letters))]
	}
	return string(b)
}

// tree is a pattern whose parts are told by pointers, not by places.
type tree struct {
	kind int
	set  api.Set
	a, b *tree
}

func none() *tree              { return &tree{kind: api.RexNil} }
func set(s api.Set) *tree      { return &tree{kind: api.RexSet, set: s} }
func one(c byte) *tree         { return set(those(c)) }
func seq(a, b *tree) *tree     { return &tree{kind: api.RexSeq, a: a, b: b} }
func alt(a, b *tree) *tree     { return &tree{kind: api.RexAlt, a: a, b: b} }
func star(a *tree) *tree       { return &tree{kind: api.RexStar, a: a} }
func plus(a *tree) *tree       { return &tree{kind: api.RexPlus, a: a} }
func perhaps(a *tree) *tree    { return alt(a, none()) }
func seqs(l ...*tree) *tree    { return rowOf(seq, l) }
func alts(l ...*tree) *tree    { return rowOf(alt, l) }
func (t *tree) rex() api.Rex   { return api.Rex{L: t.nodes(nil)} }
func (t *tree) size() int      { return len(t.nodes(nil)) }
func full() api.Set            { return api.Set{^uint64(0), ^uint64(0), ^uint64(0), ^uint64(0)} }
func others(s api.Set) api.Set { return api.Set{^s[0], ^s[1], ^s[2], ^s[3]} }

// rowOf joins trees, all but the last one first.
func rowOf(join func(a, b *tree) *tree, l []*tree) *tree {
	all := l[0]
	for _, t := range l[1:] {
		all = join(all, t)
	}
	return all
}

// those are bytes as a set.
func those(l ...byte) (s api.Set) {
	for _, c := range l {
		s[c/64] |= 1 << (c % 64)
	}
	return s
}

// fromTo are the bytes of a range as a set.
func fromTo(from, to byte) (s api.Set) {
	for c := int(from); c <= int(to); c++ {
		s[c/64] |= 1 << (c % 64)
	}
	return s
}

func isIn(s api.Set, c byte) bool {
	return s[c/64]&(1<<(c%64)) != 0
}

// count is how many bytes a set has.
func count(s api.Set) (n int) {
	for c := range 256 {
		if isIn(s, byte(c)) {
			n++
		}
	}
	return n
}

// nodes puts the tree behind others: A's, then B's, then itself.
func (t *tree) nodes(l []api.RNode) []api.RNode {
	n := api.RNode{Kind: t.kind, Set: t.set}
	if t.a != nil {
		l = t.a.nodes(l)
		n.A = len(l) - 1
	}
	if t.b != nil {
		l = t.b.nodes(l)
		n.B = len(l) - 1
	}
	return append(l, n)
}

// treeOf are nodes as a tree.
func treeOf(l []api.RNode, place int) *tree {
	n := l[place]
	t := &tree{kind: n.Kind, set: n.Set}
	switch n.Kind {
	case api.RexStar, api.RexPlus:
		t.a = treeOf(l, n.A)
	case api.RexSeq, api.RexAlt:
		t.a, t.b = treeOf(l, n.A), treeOf(l, n.B)
	}
	return t
}

func same(a, b api.Rex) bool {
	return slices.Equal(a.L, b.L)
}

// tree is a pattern of about so many nodes at most, whose sets are some of a list.
func (m *mixer) tree(size int, list []api.Set) *tree {
	if size <= 1 {
		if m.below(6) == 0 {
			return none()
		}
		return set(list[m.below(len(list))])
	}
	switch m.below(7) {
	case 0, 1, 2:
		left := 1 + m.below(size)
		return seq(m.tree(left-1, list), m.tree(size-left-1, list))
	case 3, 4:
		left := 1 + m.below(size)
		return alt(m.tree(left-1, list), m.tree(size-left-1, list))
	case 5:
		return star(m.tree(size-1, list))
	}
	return plus(m.tree(size-1, list))
}

// someSets are sets of all sorts: of none, of one byte, of few, of many, of all.
func (m *mixer) someSets(n int) []api.Set {
	l := []api.Set{{}, full(), those('a'), those('\n'), others(those('\n')), others(those('a')), those('(', ')'), fromTo('a', 'z'), fromTo(0, 127), fromTo(0, 128), those(255), those('^', '-', ']')}
	for len(l) < n {
		var s api.Set
		for i := range s {
			s[i] = uint64(m.next())<<32 | uint64(m.next())
			for range m.below(5) {
				s[i] &= uint64(m.next())<<32 | uint64(m.next())
			}
		}
		if m.below(2) == 0 {
			s = others(s)
		}
		l = append(l, s)
	}
	return l
}

// slow reads the chapter's words of what a tree takes as they stand: it looks at each part of a text, at each way to cut it.
type slow struct {
	text  string
	known map[piece]bool
}

type piece struct {
	t        *tree
	from, to int
}

func slowTakes(t *tree, text string) bool {
	return slow{text, map[piece]bool{}}.takes(t, 0, len(text))
}

func (s slow) takes(t *tree, from, to int) bool {
	p := piece{t, from, to}
	is, known := s.known[p]
	if !known {
		is = s.look(t, from, to)
		s.known[p] = is
	}
	return is
}

func (s slow) look(t *tree, from, to int) bool {
	switch t.kind {
	case api.RexNil:
		return from == to
	case api.RexSet:
		return to == from+1 && isIn(t.set, s.text[from])
	case api.RexSeq:
		for cut := from; cut <= to; cut++ {
			if s.takes(t.a, from, cut) && s.takes(t.b, cut, to) {
				return true
			}
		}
		return false
	case api.RexAlt:
		return s.takes(t.a, from, to) || s.takes(t.b, from, to)
	}
	// Pieces without bytes can be left out, but for the only one of a plus.
	if from == to {
		return t.kind == api.RexStar || s.takes(t.a, from, to)
	}
	for cut := from + 1; cut <= to; cut++ {
		if s.takes(t.a, from, cut) && (cut == to || s.takes(t, cut, to)) {
			return true
		}
	}
	return false
}

// texts are all texts of up to so many of some letters.
func texts(letters string, most int) []string {
	l := []string{""}
	for from, n := 0, 0; n < most; n++ {
		to := len(l)
		for _, t := range l[from:to] {
			for i := range letters {
				l = append(l, t+letters[i:i+1])
			}
		}
		from = to
	}
	return l
}

// parsed fails unless that is a pattern, and is what it is parsed as.
func parsed(t *testing.T, pattern string) api.Rex {
	t.Helper()
	x, at, e := regex.Parse(pattern)
	if at != 0 || e != api.OK {
		t.Fatalf("Parse(%q): at %d, error %d", pattern, at, e)
	}
	return x
}

// isParsedAs fails unless the pattern is that tree.
func isParsedAs(t *testing.T, pattern string, want *tree) {
	t.Helper()
	if x := parsed(t, pattern); !same(x, want.rex()) {
		t.Fatalf("Parse(%q) = %v, want %v", pattern, x.L, want.rex().L)
	}
}

// isRefused fails unless the pattern is none, and that is told at this place.
func isRefused(t *testing.T, pattern string, place int) {
	t.Helper()
	x, at, e := regex.Parse(pattern)
	if len(x.L) != 0 || at != place || e != api.ErrPattern {
		t.Fatalf("Parse(%q) = %v, %d, %d, want %d, %d", pattern, x.L, at, e, place, api.ErrPattern)
	}
}

// printed fails unless a pattern can be written, and is what is written.
func printed(t *testing.T, x api.Rex) string {
	t.Helper()
	s, e := regex.Print(x)
	if e != api.OK {
		t.Fatalf("Print(%v): error %d", x.L, e)
	}
	return s
}

// isPrintedAs fails unless the tree is written so, and that is parsed as the tree.
func isPrintedAs(t *testing.T, x *tree, want string) {
	t.Helper()
	if s := printed(t, x.rex()); s != want {
		t.Fatalf("Print(%v) = %q, want %q", x.rex().L, s, want)
	}
	isParsedAs(t, want, x)
}

// takes fails unless it is a pattern; it tells whether it takes a text.
func takes(t *testing.T, x api.Rex, text string) bool {
	t.Helper()
	is, e := regex.Takes(x, []byte(text))
	if e != api.OK {
		t.Fatalf("Takes(%v, %q): error %d", x.L, text, e)
	}
	return is
}

// takesJust fails unless, of all those texts, a pattern takes these alone, and Nil tells it of the text without bytes.
func takesJust(t *testing.T, x api.Rex, all []string, these ...string) {
	t.Helper()
	for _, text := range all {
		want := slices.Contains(these, text)
		if takes(t, x, text) != want {
			t.Fatalf("Takes(%v, %q) = %v", x.L, text, !want)
		}
	}
	is, e := regex.Nil(x)
	if is != slices.Contains(these, "") || e != api.OK {
		t.Fatalf("Nil(%v) = %v, %d", x.L, is, e)
	}
}

// takeTheSame fails unless both patterns take the same of those texts.
func takeTheSame(t *testing.T, x, y *tree, all []string) {
	t.Helper()
	a, b := x.rex(), y.rex()
	for _, text := range all {
		if takes(t, a, text) != takes(t, b, text) {
			t.Fatalf("one of %q and %q takes %q", printed(t, a), printed(t, b), text)
		}
	}
}

// brackets are so many, around a text.
func brackets(n int, text string) string {
	return strings.Repeat("(", n) + text + strings.Repeat(")", n)
}
