package regex

import (
	"strings"

	"incunable/api"
	"incunable/sets"
)

// A byte that is plain stands for itself; these don't: as atoms, and within classes. Behind a \ all of them do, and letters stand for the bytes of lettered, each for that at its own place.
const (
	atomSigns  = `()[]|*+?.\/`
	classSigns = `[]\^-/`
	letters    = "ntr"
	lettered   = "\n\t\r"
	digits     = "0123456789abcdef"
)

// A refusal is thrown where a pattern can't go on.
type refusal struct{ at int }

// Parse reads a pattern.
func Parse(pattern string) (x api.Rex, at int, e api.Errno) {
	if len(pattern) > api.MaxPat {
		return api.Rex{}, 0, api.ErrLimit
	}
	defer func() {
		if thrown := recover(); thrown != nil {
			x, at, e = api.Rex{}, thrown.(refusal).at, api.ErrPattern
		}
	}()
	l := read(pattern)
	if len(l) > api.MaxNodes {
		return api.Rex{}, 0, api.ErrLimit
	}
	return api.Rex{L: l}, 0, api.OK
}

// read is a pattern's nodes, however many; it throws a refusal, if it is none.
func read(pattern string) []api.RNode {
	r := reader{cursor: cursor{text: pattern}}
	r.ways()
	if r.at < len(pattern) {
		panic(refusal{r.at})
	}
	return r.nodes
}

// A cursor goes through a text. It reads what stands for a byte, or for a set of bytes.
type cursor struct {
	text string
	at   int
}

// look is the byte that comes next; at the end 0, which stands nowhere in a pattern.
func (c *cursor) look() byte {
	if c.at == len(c.text) {
		return 0
	}
	return c.text[c.at]
}

// skips goes past the next byte, if it is that one.
func (c *cursor) skips(b byte) bool {
	is := c.look() == b
	if is {
		c.at++
	}
	return is
}

// one reads a byte that is none of the signs, or an escape.
func (c *cursor) one(signs string) byte {
	if c.skips('\\') {
		return c.escape()
	}
	b := c.look()
	if !isPlain(b, signs) {
		panic(refusal{c.at})
	}
	c.at++
	return b
}

// escape reads what is behind a \. A letter means another byte, and goes on as those that mean themselves.
func (c *cursor) escape() byte {
	b := c.look()
	switch {
	case b == 'x':
		c.at++
		high := c.digit()
		return high<<4 | c.digit()
	case has(letters, b):
		b = lettered[strings.IndexByte(letters, b)]
		fallthrough
	case isSign(b):
		c.at++
		return b
	}
	panic(refusal{c.at})
}

// digit reads one of 16.
func (c *cursor) digit() byte {
	i := strings.IndexByte(digits, c.look())
	if i < 0 {
		panic(refusal{c.at})
	}
	c.at++
	return byte(i)
}

// class reads what is behind a [, up to its ].
func (c *cursor) class() api.Set {
	others := c.skips('^')
	s := c.stretch()
	for !c.skips(']') {
		s = sets.Union(s, c.stretch())
	}
	if others {
		s = sets.Not(s)
	}
	return s
}

// stretch reads a byte of a class, or two with a - between.
func (c *cursor) stretch() api.Set {
	from := c.one(classSigns)
	if !c.skips('-') {
		return sets.Of(from)
	}
	place := c.at
	to := c.one(classSigns)
	if to < from {
		panic(refusal{place})
	}
	return sets.Span(from, to)
}

// A reader makes nodes of what its cursor goes through. What is read stands at its end: each of its calls answers the place of the last node there, which has all others that it made as parts.
type reader struct {
	cursor
	nodes []api.RNode
}

// ways reads ways, each two with a | between.
func (r *reader) ways() int {
	all := r.way()
	for r.skips('|') {
		last := r.way()
		all = r.joined(api.RexAlt, all, last)
	}
	return all
}

// way reads pieces up to the way's end.
func (r *reader) way() int {
	if r.wayEnds() {
		return r.joined(api.RexNil, 0, 0)
	}
	all := r.piece()
	for !r.wayEnds() {
		last := r.piece()
		all = r.joined(api.RexSeq, all, last)
	}
	return all
}

// wayEnds tells whether nothing of a way comes next. Whoever reads ways looks whether they may end so.
func (r *reader) wayEnds() bool {
	return r.at == len(r.text) || has("|)", r.look())
}

// piece reads an atom, and what is told of it behind.
func (r *reader) piece() int {
	x := r.atom()
	for {
		switch {
		case r.skips('*'):
			x = r.joined(api.RexStar, x, 0)
		case r.skips('+'):
			x = r.joined(api.RexPlus, x, 0)
		case r.skips('?'):
			none := r.joined(api.RexNil, 0, 0)
			x = r.joined(api.RexAlt, x, none)
		default:
			return x
		}
	}
}

// atom reads one.
func (r *reader) atom() int {
	switch {
	case r.skips('('):
		x := r.ways()
		if !r.skips(')') {
			panic(refusal{r.at})
		}
		return x
	case r.skips('['):
		return r.leaf(r.class())
	case r.skips('.'):
		return r.leaf(allButEnds())
	}
	return r.leaf(sets.Of(r.one(atomSigns)))
}

// leaf makes a node that takes a byte of a set.
func (r *reader) leaf(s api.Set) int {
	return r.made(api.RNode{Kind: api.RexSet, Set: s})
}

// joined makes a node of the parts at those places (0: none).
func (r *reader) joined(kind, a, b int) int {
	return r.made(api.RNode{Kind: kind, A: a, B: b})
}

func (r *reader) made(n api.RNode) int {
	r.nodes = append(r.nodes, n)
	return len(r.nodes) - 1
}

// isPlain tells whether a byte stands for itself where those are signs.
func isPlain(b byte, signs string) bool {
	return ' ' <= b && b <= '~' && !has(signs, b)
}

// isSign tells whether a byte stands for itself behind a \.
func isSign(b byte) bool {
	return has(atomSigns, b) || has(classSigns, b)
}

func has(list string, b byte) bool {
	return strings.IndexByte(list, b) >= 0
}

// allButEnds is what a . stands for: all bytes but the end of a line.
func allButEnds() api.Set {
	return sets.Not(sets.Of('\n'))
}
