package regex_test

import (
	"fmt"
	"regexp"
	"strings"
	"testing"

	"incunable/api"
	"incunable/regex"
)

// P9.1: the chapter's example.
func TestTakesAsInTheExamples(t *testing.T) {
	x := parsed(t, "ab*")
	is, e := regex.Nil(x)
	if is || e != api.OK {
		t.Errorf("Nil: %v, %d", is, e)
	}
	if !takes(t, x, "abb") || takes(t, x, "ba") {
		t.Errorf("abb: %v, ba: %v", takes(t, x, "abb"), takes(t, x, "ba"))
	}
}

// P9.1: Nil and Takes of each kind.
func TestTakesOfEachKind(t *testing.T) {
	all := texts("abc", 4)
	a, b := one('a'), one('b')
	takesJust(t, none().rex(), all, "")
	takesJust(t, a.rex(), all, "a")
	takesJust(t, set(those('a', 'c')).rex(), all, "a", "c")
	takesJust(t, set(api.Set{}).rex(), all)
	takesJust(t, set(full()).rex(), all, "a", "b", "c")
	takesJust(t, seq(a, b).rex(), all, "ab")
	takesJust(t, seq(set(api.Set{}), a).rex(), all)
	takesJust(t, seq(a, set(api.Set{})).rex(), all)
	takesJust(t, alt(a, b).rex(), all, "a", "b")
	takesJust(t, alt(set(api.Set{}), b).rex(), all, "b")
	takesJust(t, star(a).rex(), all, "", "a", "aa", "aaa", "aaaa")
	takesJust(t, plus(a).rex(), all, "a", "aa", "aaa", "aaaa")
	takesJust(t, star(set(api.Set{})).rex(), all, "")
	takesJust(t, plus(set(api.Set{})).rex(), all)
}

// P9.1: Nil and Takes of kinds within kinds: of what takes the text without bytes as each part, and of any number of it.
func TestTakesOfKindsWithinKinds(t *testing.T) {
	all := texts("ab", 4)
	a, b := one('a'), one('b')
	as := []string{"", "a", "aa", "aaa", "aaaa"}
	for _, x := range []*tree{star(star(a)), star(plus(a)), plus(star(a)), star(perhaps(a)), plus(perhaps(a)), plus(alt(none(), a)), seq(star(a), star(a)), alt(plus(a), none()), star(seq(star(a), star(a))), plus(plus(perhaps(a)))} {
		takesJust(t, x.rex(), all, as...)
	}
	takesJust(t, plus(plus(a)).rex(), all, as[1:]...)
	takesJust(t, seq(a, star(a)).rex(), all, as[1:]...)
	takesJust(t, star(none()).rex(), all, "")
	takesJust(t, plus(none()).rex(), all, "")
	takesJust(t, star(star(none())).rex(), all, "")
	takesJust(t, plus(seq(none(), none())).rex(), all, "")
	takesJust(t, seq(none(), a).rex(), all, "a")
	takesJust(t, seq(a, none()).rex(), all, "a")
	takesJust(t, seq(none(), none()).rex(), all, "")
	takesJust(t, alt(none(), none()).rex(), all, "")
	takesJust(t, seq(perhaps(a), perhaps(b)).rex(), all, "", "a", "b", "ab")
	takesJust(t, seq(seq(a, perhaps(b)), a).rex(), all, "aa", "aba")
	takesJust(t, seq(perhaps(a), seq(perhaps(b), a)).rex(), all, "a", "aa", "ba", "aba")
	takesJust(t, star(seq(a, b)).rex(), all, "", "ab", "abab")
	takesJust(t, plus(seq(a, b)).rex(), all, "ab", "abab")
	takesJust(t, star(alt(a, b)).rex(), all, all...)
	takesJust(t, seq(star(a), plus(b)).rex(), all, "b", "bb", "bbb", "bbbb", "ab", "abb", "abbb", "aab", "aabb", "aaab")
	takesJust(t, seq(plus(a), star(b)).rex(), all, "a", "aa", "aaa", "aaaa", "ab", "abb", "abbb", "aab", "aabb", "aaab")
	takesJust(t, alt(seq(a, a), seq(a, b)).rex(), all, "aa", "ab")
	takesJust(t, star(seq(a, perhaps(b))).rex(), all, "", "a", "aa", "ab", "aaa", "aab", "aba", "aaaa", "aaab", "aaba", "abaa", "abab")
}

// P9.1: a set takes its bytes alone, each of them.
func TestTakesOfSets(t *testing.T) {
	m := mixer(3)
	for _, s := range m.someSets(60) {
		x := set(s).rex()
		for c := range 256 {
			if got := takes(t, x, string([]byte{byte(c)})); got != isIn(s, byte(c)) {
				t.Fatalf("the set %x and the byte %d: %v", s, c, got)
			}
		}
		if takes(t, x, "") || takes(t, x, "aa") {
			t.Fatalf("the set %x takes no byte, or two", s)
		}
	}
}

// P9.1, P9.6: all patterns of up to six nodes, held against the slow reading.
func TestTakesOfAllSmallTrees(t *testing.T) {
	all := texts("ab", 4)
	for _, l := range trees(6, those('a'), those('b')) {
		for _, x := range l {
			r := x.rex()
			for _, text := range all {
				if got := takes(t, r, text); got != slowTakes(x, text) {
					t.Fatalf("%q takes %q: %v", printed(t, r), text, got)
				}
			}
		}
	}
}

// P9.1: patterns that look like chance, of up to 256 nodes, held against the slow reading.
func TestTakesOfTrees(t *testing.T) {
	m := mixer(4)
	all := texts("abc", 4)
	list := []api.Set{those('a'), those('b'), those('c'), those('a', 'b'), those('b', 'c'), full(), {}, those('a'), those('b')}
	for i := range 2500 {
		x := m.tree(1+m.below(3+i/12), list)
		r := x.rex()
		if len(r.L) > api.MaxNodes {
			continue
		}
		isNil, e := regex.Nil(r)
		if isNil != slowTakes(x, "") || e != api.OK {
			t.Fatalf("Nil of %v: %v, %d", r.L, isNil, e)
		}
		for range 12 {
			text := all[m.below(len(all))] + m.text("abc", m.below(6))
			if got := takes(t, r, text); got != slowTakes(x, text) {
				t.Fatalf("%v takes %q: %v", r.L, text, got)
			}
		}
	}
}

// P9.1: bytes of all values, in texts as in sets.
func TestTakesAllBytes(t *testing.T) {
	m := mixer(5)
	list := m.someSets(40)
	for range 1500 {
		x := m.tree(1+m.below(14), list)
		r := x.rex()
		for range 10 {
			text := string(m.bytes(m.below(7)))
			if got := takes(t, r, text); got != slowTakes(x, text) {
				t.Fatalf("%v takes %q: %v", r.L, text, got)
			}
		}
	}
}

// P9.1: the whole text is taken, not its beginning, nor its end, nor a piece of it.
func TestTakesTheWholeText(t *testing.T) {
	x := parsed(t, "ab")
	for _, text := range []string{"a", "b", "abc", "cab", "abab", "aab", "abb", "", "ab\x00", "\x00ab"} {
		if takes(t, x, text) {
			t.Errorf("ab takes %q", text)
		}
	}
}

// P9.1: texts of no bytes, of 8192 and of 8193.
func TestTakesOfLongTexts(t *testing.T) {
	x := parsed(t, "a*")
	for _, n := range []int{0, 1, 8191, 8192} {
		if !takes(t, x, strings.Repeat("a", n)) {
			t.Errorf("a* takes not %d bytes", n)
		}
	}
	for _, n := range []int{8193, 8194, 100000} {
		for _, p := range []string{"a*", "b", "", "(a|b)*"} {
			is, e := regex.Takes(parsed(t, p), []byte(strings.Repeat("a", n)))
			if is || e != api.ErrLimit {
				t.Errorf("%q, %d bytes: %v, %d", p, n, is, e)
			}
		}
	}
	if takes(t, x, strings.Repeat("a", 8191)+"b") || takes(t, x, "b"+strings.Repeat("a", 8191)) || takes(t, x, strings.Repeat("a", 4096)+"b"+strings.Repeat("a", 4095)) {
		t.Error("a* takes a b among 8191 a")
	}
	pairs := parsed(t, "(ab)*")
	if !takes(t, pairs, strings.Repeat("ab", 4096)) || takes(t, pairs, strings.Repeat("ab", 4095)+"a") {
		t.Error("(ab)*, 8192 bytes and 8191")
	}
}

// P9.1: Check's error comes ahead of that of the text.
func TestErrorOfThePatternFirst(t *testing.T) {
	long := make([]byte, 8193)
	for _, l := range [][]api.RNode{nil, {{}}, {{Kind: 7}}, {{Kind: api.RexSeq}}} {
		is, e := regex.Takes(api.Rex{L: l}, long)
		if is || e != api.ErrArg {
			t.Errorf("%v: %v, %d", l, is, e)
		}
	}
}

// written is a tree as the library's patterns are written, of bytes as runes.
func written(t *tree) string {
	switch t.kind {
	case api.RexNil:
		return "(?:)"
	case api.RexSet:
		var b strings.Builder
		for c := range 256 {
			if isIn(t.set, byte(c)) {
				fmt.Fprintf(&b, `\x{%x}`, c)
			}
		}
		if b.Len() == 0 {
			return `[^\x{0}-\x{10ffff}]`
		}
		return "[" + b.String() + "]"
	case api.RexSeq:
		return "(?:" + written(t.a) + written(t.b) + ")"
	case api.RexAlt:
		return "(?:" + written(t.a) + "|" + written(t.b) + ")"
	case api.RexStar:
		return "(?:" + written(t.a) + ")*"
	}
	return "(?:" + written(t.a) + ")+"
}

// runes are bytes as runes of the same numbers.
func runes(text string) string {
	l := make([]rune, len(text))
	for i := range len(text) {
		l[i] = rune(text[i])
	}
	return string(l)
}

// taken is a text that a tree takes, if no set without bytes stands in its way; the mixer says which.
func (m *mixer) taken(t *tree, most int) string {
	switch t.kind {
	case api.RexNil:
		return ""
	case api.RexSet:
		for from := m.below(256); count(t.set) > 0; from++ {
			if isIn(t.set, byte(from)) {
				return string([]byte{byte(from)})
			}
		}
		return ""
	case api.RexSeq:
		return m.taken(t.a, most) + m.taken(t.b, most)
	case api.RexAlt:
		if m.below(2) == 0 {
			return m.taken(t.a, most)
		}
		return m.taken(t.b, most)
	}
	all := ""
	if t.kind == api.RexPlus {
		all = m.taken(t.a, most)
	}
	for n := m.below(4); n > 0 && len(all) < most; n-- {
		all += m.taken(t.a, most)
	}
	return all
}

// P9.1: long texts, held against the library's patterns.
func TestTakesLikeTheLibrary(t *testing.T) {
	m := mixer(6)
	list := append(m.someSets(20), those('a'), those('b'), those('a', 'b'))
	yes, no := 0, 0
	for range 200 {
		x := star(m.tree(1+m.below(30), list))
		r := x.rex()
		other := regexp.MustCompile(`\A(?s:` + written(x) + `)\z`)
		text := ""
		for range 50 {
			text += m.taken(x.a, 100)
		}
		text = text[:min(len(text), 8192)]
		for range 3 {
			want := other.MatchString(runes(text))
			if want {
				yes++
			} else {
				no++
			}
			if got := takes(t, r, text); got != want {
				t.Fatalf("%q takes %q: %v", printed(t, r), text, got)
			}
			if len(text) > 0 {
				i := m.below(len(text))
				text = text[:i] + string(m.bytes(1)) + text[i+1:]
			}
		}
	}
	if yes < 100 || no < 100 {
		t.Errorf("%d texts were taken, %d not", yes, no)
	}
}

// P9.1: patterns of as many nodes as may be, and texts of as many bytes, in which all that takes a byte has to be looked at.
func TestTakesOfTheGreatest(t *testing.T) {
	as := strings.Repeat("a", 8192)
	for _, p := range []string{"(" + strings.Repeat("a*", 85) + ")*", "(" + strings.Repeat("a|", 126) + "b)+", strings.Repeat("a*", 84) + "a*"} {
		x := parsed(t, p)
		if !takes(t, x, as) || takes(t, x, as[1:]+"c") || takes(t, x, "c"+as[1:]) {
			t.Errorf("%q", p)
		}
	}
	deep := one('a')
	for deep.size() < api.MaxNodes {
		deep = star(deep)
	}
	if !takes(t, deep.rex(), as) || !takes(t, deep.rex(), "") || takes(t, deep.rex(), as[1:]+"b") {
		t.Error("a star of a star of .. a")
	}
	row := parsed(t, strings.Repeat("a", 64)+strings.Repeat("b", 64))
	if want := strings.Repeat("a", 64) + strings.Repeat("b", 64); !takes(t, row, want) || takes(t, row, want[1:]) || takes(t, row, want+"b") {
		t.Error("a row of 128 bytes")
	}
}
