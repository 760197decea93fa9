package nfa_test

import (
	"slices"
	"testing"

	"incunable/api"
	"incunable/regex"
)

// firstToTake is the first pattern that takes a text.
func firstToTake(t *testing.T, l []api.Rex, text string) int {
	t.Helper()
	for i, x := range l {
		is, e := regex.Takes(x, []byte(text))
		if e != api.OK {
			t.Fatalf("Takes: error %d", e)
		}
		if is {
			return i
		}
	}
	return -1
}

// P10.4: Run of a net of patterns tells the first pattern that takes the text.
func TestRunTellsTheFirstPattern(t *testing.T) {
	m := mixer(6)
	told := map[int]int{}
	for i := range 3000 {
		l := m.patterns(m.below(6), 2+i/150)
		n := made(t, l)
		for range 10 {
			text := string(m.text("aabbcd", m.below(7)))
			rule, want := ran(t, n, text), firstToTake(t, l, text)
			if rule != want {
				t.Fatalf("%v: Run(%q) = %d, want %d", l, text, rule, want)
			}
			told[rule]++
		}
	}
	for rule := -1; rule <= 3; rule++ {
		if told[rule] < 100 {
			t.Errorf("the rule %d was told %d times", rule, told[rule])
		}
	}
}

// P10.4: the same of patterns as they are written, and all short texts.
func TestRunOfWrittenPatterns(t *testing.T) {
	for _, patterns := range [][]string{
		{"a*", "b"},
		{"(a|b)*abb", "(a|b)*", "c"},
		{"(a*)*b", "(a+)+", "((a|())*)*"},
		{"ab|ac", "a(b|c)a", "[ab][bc]", "[^a]*"},
		{"[^\\x00-\\xff]", "a[^\\x00-\\xff]*", "."},
		{"((ab)+c)+", "(ab|c)+", "a?b?c?"},
		{"", "a", "aa", "aaa", "aaaa", "a*"},
	} {
		l := parsed(t, patterns...)
		n := made(t, l)
		for _, text := range texts("abc", 6) {
			if rule, want := ran(t, n, text), firstToTake(t, l, text); rule != want {
				t.Fatalf("%q: Run(%q) = %d, want %d", patterns, text, rule, want)
			}
		}
	}
}

// P10.4: the same of many patterns, and of great ones, and of long texts.
func TestRunOfManyPatterns(t *testing.T) {
	m := mixer(7)
	for range 40 {
		l := m.patterns(64, 8)
		n := made(t, l)
		for range 20 {
			text := string(m.text("ab", m.below(20)))
			if rule, want := ran(t, n, text), firstToTake(t, l, text); rule != want {
				t.Fatalf("Run(%q) = %d, want %d", text, rule, want)
			}
		}
	}
	for range 20 {
		l := m.patterns(4, 120)
		n := made(t, l)
		text := string(m.text("ab", m.below(300)))
		if rule, want := ran(t, n, text), firstToTake(t, l, text); rule != want {
			t.Fatalf("Run(%q) = %d, want %d", text, rule, want)
		}
	}
}

// P10.5: Close of Close is Close; and what is closed is of it.
func TestCloseOfClose(t *testing.T) {
	m := mixer(8)
	for range 3000 {
		n := m.net(1+m.below(30), m.below(60), 0)
		l := m.some(n, 5)
		once := closed(t, n, l...)
		if twice := closed(t, n, once...); !slices.Equal(once, twice) {
			t.Fatalf("%v: Close(%v) = %v, of which it is %v", n, l, once, twice)
		}
		for _, s := range l {
			if !slices.Contains(once, s) {
				t.Fatalf("%v: Close(%v) = %v", n, l, once)
			}
		}
	}
}

// P10.5: of more states it is more: it has what it has of fewer, and is what it is of its parts.
func TestCloseOfMore(t *testing.T) {
	m := mixer(9)
	for range 3000 {
		n := m.net(1+m.below(30), m.below(60), 0)
		a, b := m.some(n, 4), m.some(n, 4)
		both := closed(t, n, slices.Concat(a, b)...)
		parts := slices.Concat(closed(t, n, a...), closed(t, n, b...))
		slices.Sort(parts)
		if parts = slices.Compact(parts); !slices.Equal(both, parts) {
			t.Fatalf("%v: of %v and %v: %v, of both %v", n, a, b, parts, both)
		}
	}
}

// P10.2, P10.5: Run is what Close and Step tell, byte by byte.
func TestRunIsCloseAndStep(t *testing.T) {
	m := mixer(10)
	for i := range 2000 {
		n := m.net(1+m.below(20), m.below(40), 3)
		if i%2 == 0 {
			n = made(t, m.patterns(3, 12))
		}
		text := string(m.text("abc", m.below(9)))
		l := closed(t, n, 0)
		for j := range len(text) {
			l = closed(t, n, stepped(t, n, text[j], l...)...)
		}
		want := slices.IndexFunc(n.Ends, func(end int) bool { return slices.Contains(l, end) })
		if rule := ran(t, n, text); rule != want {
			t.Fatalf("%v: Run(%q) = %d, want %d", n, text, rule, want)
		}
	}
}
