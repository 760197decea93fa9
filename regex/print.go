package regex

import (
	"strings"

	"incunable/api"
	"incunable/sets"
)

// Print writes a pattern.
func Print(x api.Rex) (string, api.Errno) {
	if e := Check(x); e != api.OK {
		return "", e
	}
	w := writer{nodes: x.L}
	w.node(len(x.L)-1, looseAlt)
	if len(w.text) > api.MaxPat {
		return "", api.ErrLimit
	}
	return string(w.text), api.OK
}

// How fast what is written holds together: ways not at all, pieces one behind the other more, a single piece most.
const (
	looseAlt = iota
	looseSeq
	firm
)

// A writer writes nodes behind what it has written.
type writer struct {
	nodes []api.RNode
	text  []byte
}

// node writes the one at a place, in brackets if it doesn't hold together as it must there.
func (w *writer) node(place, least int) {
	n := w.nodes[place]
	if hold(n.Kind) >= least {
		w.bare(n)
		return
	}
	w.put("(")
	w.bare(n)
	w.put(")")
}

// bare writes a node without brackets around it.
func (w *writer) bare(n api.RNode) {
	switch n.Kind {
	case api.RexNil:
		w.put("()")
	case api.RexSet:
		w.set(n.Set)
	case api.RexSeq:
		w.node(n.A, looseSeq)
		w.node(n.B, firm)
	case api.RexAlt:
		w.node(n.A, looseAlt)
		w.put("|")
		w.node(n.B, looseSeq)
	case api.RexStar:
		w.node(n.A, firm)
		w.put("*")
	case api.RexPlus:
		w.node(n.A, firm)
		w.put("+")
	}
}

// hold is how fast a node of that kind holds together.
func hold(kind int) int {
	switch kind {
	case api.RexAlt:
		return looseAlt
	case api.RexSeq:
		return looseSeq
	}
	return firm
}

// set writes a set: as a byte, as a ., or as a class, which tells what it has, or what it has not, if that is less.
func (w *writer) set(s api.Set) {
	n := sets.Len(s)
	switch {
	case n == 1:
		c, _ := sets.Least(s)
		w.one(c, atomSigns)
	case s == allButEnds():
		w.put(".")
	case n == 0, 128 < n && n < 256:
		w.put("[^")
		w.stretches(sets.Not(s))
		w.put("]")
	default:
		w.put("[")
		w.stretches(s)
		w.put("]")
	}
}

// stretches writes a set's bytes as they stand in a class, rising.
func (w *writer) stretches(left api.Set) {
	for from, is := sets.Least(left); is; from, is = sets.Least(left) {
		to := stretchEnd(left, from)
		w.one(from, classSigns)
		if to > from {
			w.put("-")
			w.one(to, classSigns)
		}
		left = sets.Less(left, sets.Span(from, to))
	}
}

// stretchEnd is the last byte of those that are written as one with from: all that follow it, if there are two of them at least, else from itself.
func stretchEnd(s api.Set, from byte) byte {
	to := from
	for to < 255 && sets.Has(s, to+1) {
		to++
	}
	if to-from < 2 {
		return from
	}
	return to
}

// one writes a byte where those are signs.
func (w *writer) one(c byte, signs string) {
	letter := strings.IndexByte(lettered, c)
	switch {
	case isPlain(c, signs):
		w.text = append(w.text, c)
	case letter >= 0:
		w.text = append(w.text, '\\', letters[letter])
	case isSign(c):
		w.text = append(w.text, '\\', c)
	default:
		w.text = append(w.text, '\\', 'x', digits[c>>4], digits[c&15])
	}
}

func (w *writer) put(s string) {
	w.text = append(w.text, s...)
}
