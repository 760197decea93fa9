package dfa_test

import (
	"slices"
	"testing"

	"incunable/api"
	"incunable/dfa"
	"incunable/nfa"
)

// sameRuns fails unless the machine of a net tells of texts what the net tells.
func sameRuns(t *testing.T, n api.Nfa, d api.Dfa, texts ...string) map[int]int {
	t.Helper()
	told := map[int]int{}
	for _, text := range texts {
		want, e := nfa.Run(n, []byte(text))
		if e != api.OK {
			t.Fatalf("nfa.Run: error %d", e)
		}
		if rule := ran(t, d, text); rule != want {
			t.Fatalf("%v: Run(%q) = %d, of the net %d", n, text, rule, want)
		}
		told[want]++
	}
	return told
}

// P11.4: Run of a net's machine tells what nfa.Run tells: of patterns as they are written, and all short texts.
func TestRunOfWrittenPatterns(t *testing.T) {
	for _, patterns := range [][]string{
		{"a*", "b"},
		{"(a|b)*abb", "(a|b)*", "c"},
		{"(a*)*b", "(a+)+", "((a|())*)*"},
		{"ab|ac", "a(b|c)a", "[ab][bc]", "[^a]*"},
		{"[^\\x00-\\xff]", "a[^\\x00-\\xff]*", "."},
		{"((ab)+c)+", "(ab|c)+", "a?b?c?"},
		{"", "a", "aa", "aaa", "aaaa", "a*"},
		{"abc", "ab", "[ab]c?", "[a-c]+"},
	} {
		n := netOf(t, parsed(t, patterns...))
		sameRuns(t, n, made(t, n), texts("abc", 6)...)
	}
}

// P11.4: the same of the patterns of a language, and texts that they take, nearly take, and don't.
func TestRunOfALanguage(t *testing.T) {
	n := netOf(t, parsed(t, "if", "else", "[A-Za-z_][A-Za-z0-9_]*", "[0-9]+(\\.[0-9]+)?", "\"([^\"\\\\]|\\\\.)*\"", "[ \\t\\n]+", "=|==|<=|<"))
	told := sameRuns(t, n, made(t, n), "if", "i", "iff", "If", "else", "elsee", "x_1", "_", "1x", "12", "12.", "12.5", ".5", "1.2.3", "\"\"", "\"a\\\"b\"", "\"a", "\"\\\"", " ", " \t\n", " a", "=", "==", "<=", "<", "=<", "===", "", "\x00", "\xff")
	for rule := -1; rule <= 6; rule++ {
		if told[rule] == 0 {
			t.Errorf("the rule %d was never told", rule)
		}
	}
}

// P11.4: the same of patterns of all sorts.
func TestRunOfPatterns(t *testing.T) {
	m := mixer(7)
	told := map[int]int{}
	for i := range 1500 {
		n := netOf(t, m.patterns(m.below(6), 2+i/75))
		d := made(t, n)
		for range 10 {
			for rule, many := range sameRuns(t, n, d, string(m.text("aabbcd", m.below(8)))) {
				told[rule] += many
			}
		}
	}
	for rule := -1; rule <= 3; rule++ {
		if told[rule] < 100 {
			t.Errorf("the rule %d was told %d times", rule, told[rule])
		}
	}
}

// P11.4: the same of nets of all sorts, of bytes of all classes, and of long texts.
func TestRunOfNets(t *testing.T) {
	m := mixer(8)
	many := 0
	for i := range 2500 {
		n := m.net(1+m.below(1+i/125), m.below(1+i/50), m.below(5))
		d, e := dfa.Of(n)
		if e != api.OK {
			continue
		}
		many++
		for range 5 {
			sameRuns(t, n, d, string(m.text("abcd\x00\xff", m.below(8))))
		}
		sameRuns(t, n, d, string(m.text("ab", m.below(300))))
	}
	if many < 2000 {
		t.Errorf("%d machines", many)
	}
}

// P11.4: the same of many patterns.
func TestRunOfManyPatterns(t *testing.T) {
	m := mixer(9)
	many := 0
	for range 40 {
		n := netOf(t, m.patterns(64, 6))
		d, e := dfa.Of(n)
		if e != api.OK {
			continue
		}
		many++
		for range 20 {
			sameRuns(t, n, d, string(m.text("ab", m.below(20))))
		}
	}
	if many < 20 {
		t.Errorf("%d machines", many)
	}
}

// reached are a machine's states that are reached from 0.
func reached(d api.Dfa) []int {
	l := []int{0}
	for i := 0; i < len(l); i++ {
		for _, to := range d.Next[l[i]] {
			if to != -1 && !slices.Contains(l, to) {
				l = append(l, to)
			}
		}
	}
	return l
}

// P11.5: each state of a net's machine is reached from 0, and behind a class of bytes that there are.
func TestEachStateIsReached(t *testing.T) {
	m := mixer(10)
	nets := []api.Nfa{{States: 1}, chain(512), lastLetters(9), fan(255, 256)}
	for i := range 1000 {
		nets = append(nets, m.net(1+m.below(1+i/50), m.below(1+i/25), m.below(5)), netOf(t, m.patterns(m.below(5), 20)))
	}
	most := 0
	for _, n := range nets {
		d, e := dfa.Of(n)
		if e != api.OK {
			continue
		}
		l := reached(d)
		// They are numbered as they are found, so this finds them in order.
		if len(l) != len(d.Next) || !slices.IsSorted(l) {
			t.Fatalf("%v: of %d states %v", n, len(d.Next), l)
		}
		for k := range d.Next[0] {
			if !slices.Contains(d.Class[:], k) {
				t.Fatalf("%v: no byte of the class %d", n, k)
			}
		}
		most = max(most, len(l))
	}
	if most != 512 {
		t.Errorf("at most %d states", most)
	}
}

// P11.1: of no two states of a net's machine are the net's states the same: each is told apart by a text that leads to it.
func TestNoStateTwice(t *testing.T) {
	m := mixer(11)
	for i := range 500 {
		n := m.net(1+m.below(1+i/25), m.below(1+i/12), 2)
		d, e := dfa.Of(n)
		if e != api.OK {
			continue
		}
		first, _ := nfa.Close(n, []int{0})
		states := make([][]int, len(d.Next))
		states[0] = first
		for s, row := range d.Next {
			for c := range 256 {
				l, _ := nfa.Step(n, states[s], byte(c))
				l, _ = nfa.Close(n, l)
				to := row[d.Class[c]]
				if (to == -1) != (len(l) == 0) {
					t.Fatalf("%v: from %d behind %d: %d", n, s, c, to)
				}
				if to != -1 && states[to] == nil {
					states[to] = l
				}
				if to != -1 && !slices.Equal(states[to], l) {
					t.Fatalf("%v: from %d behind %d: %d, which is %v, and not %v", n, s, c, to, states[to], l)
				}
			}
		}
		for s, l := range states {
			if slices.ContainsFunc(states[:s], func(other []int) bool { return slices.Equal(l, other) }) {
				t.Fatalf("%v: %v is two states", n, l)
			}
		}
	}
}
