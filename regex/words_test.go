package regex_test

import (
	"fmt"
	"slices"
	"strings"

	"incunable/api"
)

// What stands here reads and writes patterns by the chapter's words in other ways than the package: bytes are listed, patterns are cut where their ways and pieces part, and refused byte by byte.

// The bytes that stand for themselves, as atoms and within classes; those that do behind a \.
const (
	atomBytes  = " !\"#$%&',-0123456789:;<=>@ABCDEFGHIJKLMNOPQRSTUVWXYZ^_`abcdefghijklmnopqrstuvwxyz{}~"
	classBytes = " !\"#$%&'()*+,.0123456789:;<=>?@ABCDEFGHIJKLMNOPQRSTUVWXYZ_`abcdefghijklmnopqrstuvwxyz{|}~"
	signBytes  = "()[]|*+?.\\/^-"
	hexBytes   = "0123456789abcdef"
)

// listed tells whether a byte is one of a list.
func listed(list string, c byte) bool {
	return strings.Contains(list, string([]byte{c}))
}

// escaped is what a \ and one byte more stand for.
func escaped(c byte) (byte, bool) {
	switch c {
	case 'n':
		return 10, true
	case 't':
		return 9, true
	case 'r':
		return 13, true
	}
	return c, listed(signBytes, c)
}

// hexValue is what a digit stands for.
func hexValue(c byte) byte {
	return byte(strings.Index(hexBytes, string([]byte{c})))
}

// cut is the tree of what is a pattern.
func cut(p string) *tree {
	units := unitsOf(p)
	for i := len(units) - 1; i >= 0; i-- {
		if units[i] == "|" {
			return alt(cut(strings.Join(units[:i], "")), cut(strings.Join(units[i+1:], "")))
		}
	}
	if len(units) == 0 {
		return none()
	}
	last := len(units) - 1
	begin := last
	for slices.Contains([]string{"*", "+", "?"}, units[begin]) {
		begin--
	}
	if begin > 0 {
		return seq(cut(strings.Join(units[:begin], "")), cut(strings.Join(units[begin:], "")))
	}
	ahead := strings.Join(units[:last], "")
	switch unit := units[last]; {
	case unit == "*":
		return star(cut(ahead))
	case unit == "+":
		return plus(cut(ahead))
	case unit == "?":
		return perhaps(cut(ahead))
	case unit == ".":
		return set(others(those(10)))
	case unit[0] == '(':
		return cut(unit[1 : len(unit)-1])
	case unit[0] == '[':
		return set(cutClass(unit[1 : len(unit)-1]))
	default:
		return one(valueOf(unit))
	}
}

// unitsOf are the parts of a pattern that stand in no brackets: brackets with what is in them, classes, escapes, other bytes.
func unitsOf(p string) (l []string) {
	for from := 0; from < len(p); {
		to := unitEnd(p, from)
		l = append(l, p[from:to])
		from = to
	}
	return l
}

func unitEnd(p string, from int) int {
	to := from + 1
	switch p[from] {
	case '\\':
		if p[to] == 'x' {
			return from + 4
		}
		return from + 2
	case '(', '[':
		end := map[byte]byte{'(': ')', '[': ']'}[p[from]]
		for p[to] != end {
			if p[from] == '[' && p[to] == '(' {
				to++
			} else {
				to = unitEnd(p, to)
			}
		}
		return to + 1
	}
	return to
}

// valueOf is the byte for which a byte or an escape stands.
func valueOf(unit string) byte {
	switch {
	case len(unit) == 1:
		return unit[0]
	case unit[1] == 'x':
		return hexValue(unit[2])*16 + hexValue(unit[3])
	}
	c, _ := escaped(unit[1])
	return c
}

// cutClass is the set of what stands in a class.
func cutClass(p string) (s api.Set) {
	if p[0] == '^' {
		return others(cutClass(p[1:]))
	}
	var units []string
	for from := 0; from < len(p); {
		to := from + 1
		if p[from] == '\\' {
			to = unitEnd(p, from)
		}
		units = append(units, p[from:to])
		from = to
	}
	in := func(c int) bool {
		for i, unit := range units {
			if unit == "-" {
				if int(valueOf(units[i-1])) <= c && c <= int(valueOf(units[i+1])) {
					return true
				}
			} else if int(valueOf(unit)) == c {
				return true
			}
		}
		return false
	}
	var l []byte
	for c := range 256 {
		if in(c) {
			l = append(l, byte(c))
		}
	}
	return those(l...)
}

// What stands ahead, for one who goes through a pattern byte by byte: what may come next hangs on nothing else, and on how many brackets are open.
const (
	wayBegins = iota
	pieceStands
	classBegins // behind [
	classGoesOn // behind [^
	byteStands  // from which a range may go on
	rangeBegins // behind its -
	rangeStands
	behindSlash
	behindX
	behindDigit
)

// walker goes through a pattern byte by byte.
type walker struct {
	state, open int
	// Of an escape, or a range: what stood ahead of it, where it began, the first digit.
	back, began int
	digit, low  byte
}

// refusedAt is the first byte with which no pattern goes on as those ahead of it do, or how many there are, if it ends too early; false, if it is a pattern.
func refusedAt(p string) (int, bool) {
	w := walker{state: wayBegins}
	for i := range len(p) {
		if place, is := w.step(p[i], i); !is {
			return place, true
		}
	}
	return len(p), w.open > 0 || w.state != wayBegins && w.state != pieceStands
}

// step goes on by a byte; or it answers where the pattern is refused.
func (w *walker) step(c byte, place int) (int, bool) {
	switch w.state {
	case wayBegins, pieceStands:
		return place, w.stepOutside(c, place)
	case behindSlash:
		if c == 'x' {
			w.state = behindX
			return 0, true
		}
		v, is := escaped(c)
		if !is {
			return place, false
		}
		return w.stands(v)
	case behindX:
		w.digit, w.state = c, behindDigit
		return place, listed(hexBytes, c)
	case behindDigit:
		if !listed(hexBytes, c) {
			return place, false
		}
		return w.stands(hexValue(w.digit)*16 + hexValue(c))
	}
	return w.stepInside(c, place)
}

func (w *walker) stepOutside(c byte, place int) bool {
	switch {
	case c == '|':
		w.state = wayBegins
	case c == '(':
		w.state = wayBegins
		w.open++
	case c == ')':
		w.state = pieceStands
		w.open--
		return w.open >= 0
	case c == '[':
		w.state = classBegins
	case c == '\\':
		w.back, w.began, w.state = w.state, place, behindSlash
	case c == '*' || c == '+' || c == '?':
		return w.state == pieceStands
	case c == '.' || listed(atomBytes, c):
		w.state = pieceStands
	default:
		return false
	}
	return true
}

func (w *walker) stepInside(c byte, place int) (int, bool) {
	switch {
	case c == '^' && w.state == classBegins:
		w.state = classGoesOn
	case c == ']' && (w.state == byteStands || w.state == rangeStands):
		w.state = pieceStands
	case c == '-' && w.state == byteStands:
		w.state = rangeBegins
	case c == '\\':
		w.back, w.began, w.state = w.state, place, behindSlash
	case listed(classBytes, c):
		w.back, w.began = w.state, place
		return w.stands(c)
	default:
		return place, false
	}
	return 0, true
}

// stands goes on behind a byte, or an escape, that stands for that one.
func (w *walker) stands(v byte) (int, bool) {
	switch w.back {
	case wayBegins, pieceStands:
		w.state = pieceStands
	case rangeBegins:
		w.state = rangeStands
		return w.began, w.low <= v
	default:
		w.state, w.low = byteStands, v
	}
	return 0, true
}

// spelt is a tree as it is written.
func spelt(t *tree) string {
	within := func(part *tree, bracketed ...int) string {
		if slices.Contains(bracketed, part.kind) {
			return "(" + spelt(part) + ")"
		}
		return spelt(part)
	}
	switch t.kind {
	case api.RexNil:
		return "()"
	case api.RexSet:
		return speltSet(t.set)
	case api.RexSeq:
		return within(t.a, api.RexAlt) + within(t.b, api.RexAlt, api.RexSeq)
	case api.RexAlt:
		return within(t.a) + "|" + within(t.b, api.RexAlt)
	case api.RexStar:
		return within(t.a, api.RexAlt, api.RexSeq) + "*"
	}
	return within(t.a, api.RexAlt, api.RexSeq) + "+"
}

func speltSet(s api.Set) string {
	var has, hasNot []byte
	for c := range 256 {
		if isIn(s, byte(c)) {
			has = append(has, byte(c))
		} else {
			hasNot = append(hasNot, byte(c))
		}
	}
	switch {
	case len(has) == 1:
		return speltByte(has[0], atomBytes)
	case len(hasNot) == 1 && hasNot[0] == 10:
		return "."
	case len(has) == 0:
		return `[^\x00-\xff]`
	case len(has) > 128 && len(has) != 256:
		return "[^" + speltList(hasNot) + "]"
	}
	return "[" + speltList(has) + "]"
}

// speltList are rising bytes as they stand in a class.
func speltList(l []byte) (text string) {
	for len(l) > 0 {
		n := 1
		for n < len(l) && l[n] == l[n-1]+1 {
			n++
		}
		if n > 2 {
			text += speltByte(l[0], classBytes) + "-" + speltByte(l[n-1], classBytes)
		} else {
			for _, c := range l[:n] {
				text += speltByte(c, classBytes)
			}
		}
		l = l[n:]
	}
	return text
}

func speltByte(c byte, plain string) string {
	switch {
	case listed(plain, c):
		return string([]byte{c})
	case c == 10:
		return `\n`
	case c == 9:
		return `\t`
	case c == 13:
		return `\r`
	case listed(signBytes, c):
		return `\` + string([]byte{c})
	}
	return fmt.Sprintf(`\x%02x`, c)
}

// pattern is one of all sorts, of some bytes; it may be long.
func (m *mixer) pattern(depth int) string {
	var ways []string
	for range 1 + m.below(3)*m.below(2) {
		way := ""
		for range m.below(5) {
			way += m.piece(depth)
		}
		ways = append(ways, way)
	}
	return strings.Join(ways, "|")
}

func (m *mixer) piece(depth int) string {
	atom := ""
	switch m.below(8) {
	case 0, 1:
		atom = m.text(atomBytes, 1)
	case 2:
		atom = m.escape()
	case 3:
		atom = "."
	case 4, 5:
		atom = m.class()
	default:
		if depth > 0 {
			atom = "(" + m.pattern(depth-1) + ")"
		} else {
			atom = "()"
		}
	}
	return atom + m.text("*+?", m.below(3)*m.below(2))
}

func (m *mixer) escape() string {
	switch m.below(3) {
	case 0:
		return `\` + m.text("ntr", 1)
	case 1:
		return `\x` + m.text(hexBytes, 2)
	}
	return `\` + m.text(signBytes, 1)
}

func (m *mixer) class() string {
	p := "["
	if m.below(3) == 0 {
		p += "^"
	}
	for range 1 + m.below(5) {
		from, to := m.classByte(), m.classByte()
		if m.below(2) == 0 && valueOf(from) <= valueOf(to) {
			p += from + "-" + to
		} else {
			p += from
		}
	}
	return p + "]"
}

func (m *mixer) classByte() string {
	if m.below(3) == 0 {
		return m.escape()
	}
	return m.text(classBytes, 1)
}
