package munch_test

import (
	"slices"
	"strings"
	"testing"

	"incunable/api"
	"incunable/munch"
	"incunable/regex"
)

// areTheText fails unless tokens, one behind the other, are a text up to a place, and have a byte at least.
func areTheText(t *testing.T, text string, at int, l []api.Token) {
	t.Helper()
	whole, from := "", 0
	for _, token := range l {
		if token.From != from || token.To <= from || token.To > len(text) {
			t.Fatalf("of %.40q: %v behind %d", text, token, from)
		}
		whole += text[token.From:token.To]
		from = token.To
	}
	if whole != text[:at] {
		t.Fatalf("%v are not %.40q", l, text[:at])
	}
}

// P13.5: tokens, one behind the other, are the text up to where it can't be cut; each is as Next tells, and no longer piece is told a rule: by machines of all sorts.
func TestTokensOfMachinesOfAllSorts(t *testing.T) {
	m := mixer(3)
	whole, part, many := 0, 0, 0
	for i := range 4000 {
		d := m.machine(1+m.below(1+i/200), 1+m.below(5), 1+m.below(4))
		text := m.text("abcde\x00\xff", m.below(16))
		l, is := isSlowCut(t, d, text)
		if is {
			whole++
			areTheText(t, text, len(text), l)
		} else if len(l) > 0 {
			part++
			areTheText(t, text, l[len(l)-1].To, l)
		}
		many = max(many, len(l))
	}
	if whole < 500 || part < 500 || many < 10 {
		t.Errorf("%d texts were cut, %d in part, %d tokens at most", whole, part, many)
	}
}

// P13.5: the same of great machines, and of long texts.
func TestTokensOfGreatMachines(t *testing.T) {
	m := mixer(4)
	for i := range 30 {
		d := m.machine(100+m.below(413), 1+m.below(256), 64)
		text := m.text("abcdefghijklmnopqrstuvwxyz", 30)
		isSlowCut(t, d, text)
		text = m.text("abcdefghijklmnopqrstuvwxyz", 8000+i)
		l, at, e := munch.Cut(d, []byte(text))
		if e == api.OK {
			at = len(text)
		}
		areTheText(t, text, at, l)
		for _, token := range l[:min(100, len(l))] {
			isNext(t, d, text, token.From, token)
			if rule := ran(t, d, text[token.From:token.To]); rule != token.Kind {
				t.Fatalf("%v: Run tells %d", token, rule)
			}
		}
		if e == api.ErrScan {
			isNoNext(t, d, text, at, api.ErrScan)
		}
	}
}

// firstThatTakes is the first pattern that takes a text; -1, if there is none.
func firstThatTakes(t *testing.T, patterns []string, text string) int {
	t.Helper()
	return slices.IndexFunc(patterns, func(p string) bool {
		x, _, e := regex.Parse(p)
		is, f := regex.Takes(x, []byte(text))
		if e != api.OK || f != api.OK {
			t.Fatalf("%q: errors %d, %d", p, e, f)
		}
		return is
	})
}

// isCutByPatterns fails unless each token of a text is the longest piece that some pattern takes, by the first one that takes it, told by the patterns alone.
func isCutByPatterns(t *testing.T, d api.Dfa, patterns []string, text string) {
	t.Helper()
	l, at, e := munch.Cut(d, []byte(text))
	if e == api.OK {
		at = len(text)
	}
	areTheText(t, text, at, l)
	for _, token := range l {
		for to := len(text); to > token.To; to-- {
			if rule := firstThatTakes(t, patterns, text[token.From:to]); rule != -1 {
				t.Fatalf("%q, %q: %v, but %d takes more: up to %d", patterns, text, token, rule, to)
			}
		}
		if rule := firstThatTakes(t, patterns, text[token.From:token.To]); rule != token.Kind {
			t.Fatalf("%q, %q: %v, but %d is the first one", patterns, text, token, rule)
		}
	}
	for to := at + 1; to <= len(text); to++ {
		if rule := firstThatTakes(t, patterns, text[at:to]); rule != -1 {
			t.Fatalf("%q, %q: up to %d, but %d goes on", patterns, text, at, rule)
		}
	}
}

// P13.5: of written patterns: by the first one of those that take the longest piece; by their machine, and by the least one.
func TestTokensOfWrittenPatterns(t *testing.T) {
	for _, patterns := range [][]string{
		{"a", "a"},
		{"a*", "b"},
		{"a+", "a", "b"},
		{"a", "a+", "b"},
		{"ab", "a", "b", "abab"},
		{"(a|b)*c", "a", "ab", "(ab)*"},
		{"[ab]+", "ab", "c+"},
		{"ab", "[ab]+", "c+"},
		{"", "abc", "ab?", "c"},
		{"abc|a", "bc", "b|c|()"},
		{"a.c", "[^c]", "cc"},
		{"(a*b)*", "a", "c"},
		{"[^\\x00-\\xff]", "a", "aa*b"},
	} {
		whole, d := wholeMachineOf(t, patterns...), machineOf(t, patterns...)
		for _, text := range texts("abc", 5) {
			isCutByPatterns(t, d, patterns, text)
			l, at, e := munch.Cut(d, []byte(text))
			if k, place, f := munch.Cut(whole, []byte(text)); !slices.Equal(k, l) || place != at || f != e {
				t.Fatalf("%q, %q: %v, of the least machine %v", patterns, text, k, l)
			}
		}
	}
}

// P13.5: the same of a language.
func TestTokensOfALanguage(t *testing.T) {
	patterns, d := languagePatterns(), language(t)
	words := []string{"if", "else", "elsee", "i", "x_1", "1", "12.5", "12.", "\"a\"", "\"\\\"\"", "\"", " ", "\n\t", "=", "==", "<", "<=", "!", "/", "/*", "*/", "/**/", "_"}
	m := mixer(5)
	for range 150 {
		text := ""
		for range m.below(9) {
			text += words[m.below(len(words))]
		}
		isCutByPatterns(t, d, patterns, text)
	}
}

// goesOn tells whether some bytes behind a piece go on with it as far as some rule.
func goesOn(t *testing.T, d api.Dfa, piece, behind string) bool {
	t.Helper()
	for to := range len(behind) {
		if ran(t, d, piece+behind[:to+1]) != -1 {
			return true
		}
	}
	return false
}

// isCutFurther fails unless a text with others behind it is cut as it is alone, and then as those are.
func isCutFurther(t *testing.T, d api.Dfa, text, behind string) {
	t.Helper()
	l, _, e := munch.Cut(d, []byte(text))
	rest, at, f := munch.Cut(d, []byte(behind))
	if e != api.OK {
		t.Fatalf("Cut(%.40q): error %d", text, e)
	}
	for _, token := range rest {
		l = append(l, tokenOf(token.Kind, token.From+len(text), token.To+len(text)))
	}
	if f == api.OK {
		isCut(t, d, text+behind, l...)
	} else {
		isCutTo(t, d, text+behind, at+len(text), l...)
	}
}

// P13.6: a text that is cut, and behind it bytes of which none goes on with a token that the machine reads up to the text's end, is cut so, and further. (Mostly that is the last token alone: of those ahead see TestTokensAheadMayGoOn.)
func TestTextsWithBytesBehind(t *testing.T) {
	m := mixer(6)
	further, readsOn, none := 0, 0, 0
	for i := range 20000 {
		d := m.machine(1+m.below(1+i/1000), 1+m.below(5), 1+m.below(3))
		text, behind := m.text("abcdefg", m.below(10)), m.text("abcdefg", m.below(6))
		l, _, e := munch.Cut(d, []byte(text))
		if e != api.OK || slices.ContainsFunc(l, func(token api.Token) bool { return goesOn(t, d, text[token.From:], behind) }) {
			continue
		}
		isCutFurther(t, d, text, behind)
		if len(l) > 1 && behind != "" {
			further++
			state := 0
			for _, c := range []byte(text[l[len(l)-1].From:] + behind[:1]) {
				if state != -1 {
					state = d.Next[state][d.Class[c]]
				}
			}
			if state == -1 {
				none++
			} else {
				readsOn++
			}
		}
	}
	if further < 500 || none < 300 || readsOn < 50 {
		t.Errorf("%d texts: behind %d the machine goes nowhere at once, behind %d it doesn't", further, none, readsOn)
	}
}

// P13.6: the same of texts of a language.
func TestTextsOfALanguageWithOthersBehind(t *testing.T) {
	d := language(t)
	for _, c := range [][2]string{
		{"if", " x"}, {"if", "=1"}, {"iffy", "\"a\""}, {"12", " 5"}, {"12", ".x"}, {"12.5", ".5"}, {"x ", "y"}, {"x ", "!"}, {"==", "="}, {"==", "=="},
		{"<", "<="}, {"\"a\"", "\"b\""}, {"/**/", "*/"}, {"x=1\n", "if else"}, {"", "if"}, {"", "!"}, {"if", ""}, {"else", "/*x"},
	} {
		isCutFurther(t, d, c[0], c[1])
		isCutFurther(t, d, "else "+c[0], c[1]+" if")
	}
	isCutFurther(t, d, strings.Repeat("x ", 2000), strings.Repeat("if ", 1000))
	isCutFurther(t, d, strings.Repeat("x ", 2000), strings.Repeat("if ", 1000)+"!")
}

// P13.1, P13.6: bytes behind a text may go on with a token ahead of its last one, which the machine reads up to the text's end: the longest piece counts then, even if they don't go on with the last one.
func TestTokensAheadMayGoOn(t *testing.T) {
	d := machineOf(t, "a", "aab", "b")
	isCut(t, d, "aa", so(2, 0, 1)...)
	if goesOn(t, d, "a", "b") {
		t.Fatal("the last token goes on")
	}
	isCut(t, d, "aab", tokenOf(1, 0, 3))
	isCut(t, d, "aaa", so(3, 0, 1)...)
	isCut(t, d, "aaab", tokenOf(0, 0, 1), tokenOf(1, 1, 4))
}
