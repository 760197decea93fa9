package munch_test

import (
	"slices"
	"testing"

	"incunable/api"
	"incunable/dfa"
	"incunable/least"
	"incunable/munch"
	"incunable/nfa"
	"incunable/regex"
)

// mixer makes numbers that look like chance and are always the same.
type mixer uint64

func (m *mixer) next() uint32 {
	*m = *m*6364136223846793005 + 1442695040888963407
	return uint32(*m >> 32)
}

func (m *mixer) below(n int) int {
	return int(m.next() % uint32(n))
}

// text is bytes of some letters.
func (m *mixer) text(letters string, n int) string {
	b := make([]byte, n)
	for i := range b {
		b[i] = letters[m.below(len(letters))]
	}
	return string(b)
}

// machine is one of so many states, classes and rules, which goes nowhere now and then.
func (m *mixer) machine(states, classes, rules int) (d api.Dfa) {
	for c := range d.Class {
		d.Class[c] = m.below(classes)
	}
	nowhere := m.below(3)
	for range states {
		row := make([]int, classes)
		for k := range row {
			row[k] = m.below(states+1) - 1
			if m.below(4) < nowhere {
				row[k] = -1
			}
		}
		d.Next = append(d.Next, row)
		d.Rule = append(d.Rule, max(-1, m.below(2*rules+1)-1-rules))
	}
	return d
}

// classes are bytes' classes: 0, but those of some letters 1, 2 and so on.
func classes(letters string) (l [256]int) {
	for i := range len(letters) {
		l[letters[i]] = i + 1
	}
	return l
}

// plain is a machine of so many states and classes, which goes nowhere and tells no rule.
func plain(states, classes int) (d api.Dfa) {
	for range states {
		d.Next = append(d.Next, slices.Repeat([]int{-1}, classes))
		d.Rule = append(d.Rule, -1)
	}
	return d
}

// row is a machine of one class that goes from each state to that behind it, from the last one nowhere, and tells these rules.
func row(rules ...int) api.Dfa {
	d := plain(len(rules), 1)
	for s := range len(rules) - 1 {
		d.Next[s][0] = s + 1
	}
	d.Rule = rules
	return d
}

// around is such a machine that goes from the last state to the first one.
func around(rules ...int) api.Dfa {
	d := row(rules...)
	d.Next[len(rules)-1][0] = 0
	return d
}

// wholeMachineOf is the machine of patterns, as it comes of their net.
func wholeMachineOf(t *testing.T, patterns ...string) api.Dfa {
	t.Helper()
	var l []api.Rex
	for _, p := range patterns {
		x, _, e := regex.Parse(p)
		if e != api.OK {
			t.Fatalf("Parse(%q): error %d", p, e)
		}
		l = append(l, x)
	}
	n, e := nfa.Of(l)
	d, f := dfa.Of(n)
	if e != api.OK || f != api.OK {
		t.Fatalf("%q: errors %d, %d", patterns, e, f)
	}
	return d
}

// machineOf is the least machine of patterns.
func machineOf(t *testing.T, patterns ...string) api.Dfa {
	t.Helper()
	d, e := least.Of(wholeMachineOf(t, patterns...))
	if e != api.OK {
		t.Fatalf("least.Of: error %d", e)
	}
	return d
}

// example is the machine of the chapter's example.
func example(t *testing.T) api.Dfa {
	t.Helper()
	return machineOf(t, "if", "[a-z]+", "[ ]+", "[0-9]+")
}

// language is a machine of words, numbers, texts and signs.
func language(t *testing.T) api.Dfa {
	t.Helper()
	return machineOf(t, languagePatterns()...)
}

func languagePatterns() []string {
	return []string{"if", "else", "[A-Za-z_][A-Za-z0-9_]*", "[0-9]+(\\.[0-9]+)?", "\"([^\"\\\\]|\\\\.)*\"", "[ \\t\\n]+", "=|==|<=|<", "\\/\\*([^*]|\\*+[^*\\/])*\\*+\\/"}
}

// tokenOf is the token of a kind, from a place on, below another one.
func tokenOf(kind, from, to int) api.Token {
	return api.Token{Kind: kind, From: from, To: to}
}

// isNext fails unless that is the token at a place.
func isNext(t *testing.T, d api.Dfa, text string, at int, want api.Token) {
	t.Helper()
	if token, e := munch.Next(d, []byte(text), at); token != want || e != api.OK {
		t.Fatalf("Next(%.40q, %d) = %v, %d, want %v", text, at, token, e, want)
	}
}

// isNoNext fails unless Next tells this error.
func isNoNext(t *testing.T, d api.Dfa, text string, at int, want api.Errno) {
	t.Helper()
	if token, e := munch.Next(d, []byte(text), at); token != (api.Token{}) || e != want {
		t.Fatalf("Next(%.40q, %d) = %v, %d, want %d", text, at, token, e, want)
	}
}

// isCut fails unless a text can be cut, and these are its tokens; All is to tell them, too.
func isCut(t *testing.T, d api.Dfa, text string, want ...api.Token) {
	t.Helper()
	if l, at, e := munch.Cut(d, []byte(text)); !slices.Equal(l, want) || at != 0 || e != api.OK {
		t.Fatalf("Cut(%.40q) = %v, %d, %d, want %v", text, l, at, e, want)
	}
	isAll(t, d, text, want)
}

// isCutTo fails unless a text can be cut up to a place alone, into these tokens; All is to tell them, too.
func isCutTo(t *testing.T, d api.Dfa, text string, place int, want ...api.Token) {
	t.Helper()
	if l, at, e := munch.Cut(d, []byte(text)); !slices.Equal(l, want) || at != place || e != api.ErrScan {
		t.Fatalf("Cut(%.40q) = %v, %d, %d, want %v, up to %d", text, l, at, e, want, place)
	}
	isAll(t, d, text, want)
}

// isNoCut fails unless Cut tells this error, and nothing else, and All nothing.
func isNoCut(t *testing.T, d api.Dfa, text string, want api.Errno) {
	t.Helper()
	if l, at, e := munch.Cut(d, []byte(text)); len(l) != 0 || at != 0 || e != want {
		t.Fatalf("Cut(%.40q) = %v, %d, %d, want %d", text, l, at, e, want)
	}
	isAll(t, d, text, nil)
}

// isAll fails unless All tells these tokens.
func isAll(t *testing.T, d api.Dfa, text string, want []api.Token) {
	t.Helper()
	if l := slices.Collect(munch.All(d, []byte(text))); !slices.Equal(l, want) {
		t.Fatalf("All(%.40q) = %v, want %v", text, l, want)
	}
}

// ran is what a machine tells of a text.
func ran(t *testing.T, d api.Dfa, text string) int {
	t.Helper()
	rule, e := dfa.Run(d, []byte(text))
	if e != api.OK {
		t.Fatalf("Run: error %d", e)
	}
	return rule
}

// slowNext reads the words of tokens as they stand: the longest piece first, each asked of dfa.Run.
func slowNext(t *testing.T, d api.Dfa, text string, at int) (api.Token, bool) {
	t.Helper()
	for to := len(text); to > at; to-- {
		if rule := ran(t, d, text[at:to]); rule != -1 {
			return api.Token{Kind: rule, From: at, To: to}, true
		}
	}
	return api.Token{}, false
}

// slowCut are the tokens of a text, and the place up to which it can be cut.
func slowCut(t *testing.T, d api.Dfa, text string) (l []api.Token, at int) {
	t.Helper()
	for {
		token, is := slowNext(t, d, text, at)
		if !is {
			return l, at
		}
		l, at = append(l, token), token.To
	}
}

// isSlowCut fails unless a text is cut as its words say, and Next tells the same at each place; it tells the tokens, and whether all of the text is cut.
func isSlowCut(t *testing.T, d api.Dfa, text string) ([]api.Token, bool) {
	t.Helper()
	for at := range len(text) {
		if token, is := slowNext(t, d, text, at); is {
			isNext(t, d, text, at, token)
		} else {
			isNoNext(t, d, text, at, api.ErrScan)
		}
	}
	l, at := slowCut(t, d, text)
	if at == len(text) {
		isCut(t, d, text, l...)
	} else {
		isCutTo(t, d, text, at, l...)
	}
	return l, at == len(text)
}

// texts are all texts of up to so many of some letters.
func texts(letters string, most int) []string {
	l := []string{""}
	for from, n := 0, 0; n < most; n++ {
		to := len(l)
		for _, t := range l[from:to] {
			for i := range letters {
				l = append(l, t+letters[i:i+1])
			}
		}
		from = to
	}
	return l
}

// A refused is a machine that may not be, and dfa.Check's error of it.
type refused struct {
	d api.Dfa
	e api.Errno
}

// refusedOnes are machines that may not be, of all the ways in which that may be so.
func refusedOnes(t *testing.T) []refused {
	t.Helper()
	changed := func(change func(d *api.Dfa)) api.Dfa {
		d := around(1, 2, 3)
		change(&d)
		return d
	}
	l := []refused{
		{api.Dfa{}, api.ErrArg},
		{plain(513, 1), api.ErrLimit},
		{plain(1, 257), api.ErrLimit},
		{plain(1, 0), api.ErrArg},
		{changed(func(d *api.Dfa) { d.Next = append(d.Next, []int{0}) }), api.ErrArg},
		{changed(func(d *api.Dfa) { d.Rule = d.Rule[:2] }), api.ErrArg},
		{changed(func(d *api.Dfa) { d.Rule = make([]int, 513) }), api.ErrLimit},
		{changed(func(d *api.Dfa) { d.Next[2] = nil }), api.ErrArg},
		{changed(func(d *api.Dfa) { d.Next[2] = make([]int, 257) }), api.ErrLimit},
		{changed(func(d *api.Dfa) { d.Next[2] = []int{0, 0} }), api.ErrArg},
		{changed(func(d *api.Dfa) { d.Next[2][0] = 3 }), api.ErrArg},
		{changed(func(d *api.Dfa) { d.Next[2][0] = -2 }), api.ErrArg},
		{changed(func(d *api.Dfa) { d.Rule[2] = 64 }), api.ErrArg},
		{changed(func(d *api.Dfa) { d.Rule[2] = -2 }), api.ErrArg},
		{changed(func(d *api.Dfa) { d.Class[255] = 1 }), api.ErrArg},
		{changed(func(d *api.Dfa) { d.Class[255] = -1 }), api.ErrArg},
	}
	for i, r := range l {
		if e := dfa.Check(r.d); e != r.e {
			t.Fatalf("%d: Check %d, want %d", i, e, r.e)
		}
	}
	return l
}
