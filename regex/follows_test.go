package regex_test

import (
	"slices"
	"testing"

	"incunable/api"
	"incunable/regex"
)

// P9.5: what was printed is parsed as it was: patterns of all shapes, of sets of all sorts.
func TestPrintedIsParsedAsItWas(t *testing.T) {
	m := mixer(14)
	list := m.someSets(300)
	done := 0
	for i := range 6000 {
		x := m.tree(1+m.below(1+i/40), list).rex()
		s, e := regex.Print(x)
		if e == api.ErrLimit {
			continue
		}
		done++
		if y := parsed(t, s); e != api.OK || !same(x, y) {
			t.Fatalf("%v is printed as %q, parsed as %v", x.L, s, y.L)
		}
	}
	if done < 2000 {
		t.Errorf("%d could be printed", done)
	}
	for _, l := range trees(6, those('a'), api.Set{}) {
		for _, x := range l {
			if y := parsed(t, printed(t, x.rex())); !same(x.rex(), y) {
				t.Fatalf("%v is parsed as %v", x.rex().L, y.L)
			}
		}
	}
}

// P9.5: what is parsed, printed and parsed, is the same; and it is printed the same.
func TestParsedPrintedAndParsed(t *testing.T) {
	m := mixer(15)
	ask := func(p string) {
		x, _, e := regex.Parse(p)
		if e != api.OK {
			return
		}
		if e := regex.Check(x); e != api.OK {
			t.Fatalf("%q is parsed as what may not be: %d", p, e)
		}
		s, e := regex.Print(x)
		if e == api.ErrLimit {
			return
		}
		y := parsed(t, s)
		if !same(x, y) || printed(t, y) != s {
			t.Fatalf("%q is printed as %q, parsed as %v, not %v", p, s, y.L, x.L)
		}
	}
	for range 6000 {
		ask(m.pattern(m.below(4)))
	}
	for _, p := range texts("a()[]|*^-", 5) {
		ask(p)
	}
}

// laws are pairs of patterns that take the same, whatever three others are.
func laws(a, b, c *tree) [][2]*tree {
	nothing := set(api.Set{})
	return [][2]*tree{
		{alt(a, b), alt(b, a)},
		{alt(alt(a, b), c), alt(a, alt(b, c))},
		{alts(a, b, c), alts(c, a, b)},
		{alts(a, b, c), alts(b, a, c)},
		{alt(a, a), a},
		{alt(a, nothing), a},
		{alt(nothing, a), a},
		{seq(seq(a, b), c), seq(a, seq(b, c))},
		{seq(a, none()), a},
		{seq(none(), a), a},
		{seq(a, nothing), nothing},
		{seq(nothing, a), nothing},
		{seq(a, alt(b, c)), alt(seq(a, b), seq(a, c))},
		{seq(alt(a, b), c), alt(seq(a, c), seq(b, c))},
		{star(a), alt(none(), plus(a))},
		{plus(a), seq(a, star(a))},
		{plus(a), seq(star(a), a)},
		{star(star(a)), star(a)},
		{star(plus(a)), star(a)},
		{plus(star(a)), star(a)},
		{plus(plus(a)), plus(a)},
		{star(perhaps(a)), star(a)},
		{seq(star(a), star(a)), star(a)},
		{star(seq(a, b)), perhaps(seqs(a, star(seq(b, a)), b))},
		{star(alt(a, b)), star(seq(star(a), star(b)))},
		{star(alt(a, b)), seq(star(a), star(seq(b, star(a))))},
		{star(nothing), none()},
		{plus(nothing), nothing},
		{star(none()), none()},
		{plus(none()), none()},
	}
}

// P9.6: as in reckoning with sets of texts: order and brackets of ways, and brackets of pieces, do not matter to what is taken.
func TestPatternsAsSetsOfTexts(t *testing.T) {
	m := mixer(16)
	all := texts("ab", 4)
	list := []api.Set{those('a'), those('b'), those('a', 'b'), {}, those('a'), those('b')}
	for range 150 {
		for _, l := range laws(m.tree(1+m.below(5), list), m.tree(1+m.below(5), list), m.tree(1+m.below(5), list)) {
			takeTheSame(t, l[0], l[1], all)
		}
	}
	for _, a := range []*tree{none(), one('a'), set(api.Set{}), star(one('a'))} {
		for _, b := range []*tree{none(), one('b'), set(api.Set{}), plus(one('a'))} {
			for _, c := range []*tree{none(), one('a'), set(full()), perhaps(one('b'))} {
				for _, l := range laws(a, b, c) {
					takeTheSame(t, l[0], l[1], all)
				}
			}
		}
	}
}

// P9.6: a pattern takes what its parts take: ways what one of them takes, pieces what is cut into what they take.
func TestPatternsTakeWhatTheirPartsTake(t *testing.T) {
	m := mixer(17)
	all := texts("ab", 5)
	list := []api.Set{those('a'), those('b'), those('a', 'b'), full()}
	for range 200 {
		a, b := m.tree(1+m.below(6), list), m.tree(1+m.below(6), list)
		for _, text := range all {
			ofA, ofB := takes(t, a.rex(), text), takes(t, b.rex(), text)
			if takes(t, alt(a, b).rex(), text) != (ofA || ofB) {
				t.Fatalf("%q or %q, and %q", printed(t, a.rex()), printed(t, b.rex()), text)
			}
			want, more := false, text == "" || ofA
			for i := range len(text) + 1 {
				if takes(t, a.rex(), text[:i]) {
					want = want || takes(t, b.rex(), text[i:])
					more = more || i > 0 && takes(t, star(a).rex(), text[i:])
				}
			}
			if takes(t, seq(a, b).rex(), text) != want {
				t.Fatalf("%q, then %q, and %q", printed(t, a.rex()), printed(t, b.rex()), text)
			}
			if takes(t, star(a).rex(), text) != more {
				t.Fatalf("any number of %q, and %q", printed(t, a.rex()), text)
			}
		}
	}
}

// P9.6: the same of patterns as they are written.
func TestWrittenPatternsAsSetsOfTexts(t *testing.T) {
	all := texts("abc", 5)
	for _, l := range [][]string{
		{"a|b|c", "c|b|a", "a|(b|c)", "(a|b)|c", "b|(c|a)", "[abc]", "[a-c]", "(((a)|b)|(c))"},
		{"abc", "a(bc)", "(ab)c", "(abc)", "(a)(b)(c)", "a()bc", "()abc", "abc()"},
		{"a?b", "b|ab", "(a|)b", "(|a)b", "(()|a)b", "ab|b"},
		{"a+", "aa*", "a*a", "a++", "(a+)+", "a|aa+"},
		{"a*", "(a*)*", "a?*", "(|a)*", "a*a*", "a+?", "(a|aa)*"},
		{"(ab|c)*", "(c|ab)*", "(c*(ab)*)*", "((ab)|(c))*", "c*(abc*)*"},
		{"a(b|c)", "ab|ac", "a[bc]", "a(c|b)", "(ac)|(ab)"},
		{"", "()", "(())", "()()", "|", "()*", "()+", "(|)", "[^\\x00-\\xff]*"},
		{"(a|b)*abb", "((b|a)*)abb", "(a*b*)*a(bb)", "[ab]*abb"},
	} {
		for _, p := range l[1:] {
			x, y := parsed(t, l[0]), parsed(t, p)
			for _, text := range all {
				if takes(t, x, text) != takes(t, y, text) {
					t.Fatalf("one of %q and %q takes %q", l[0], p, text)
				}
			}
		}
	}
}

// P9.6: other patterns take other texts: what is told apart by one text is.
func TestPatternsThatTakeOthers(t *testing.T) {
	all := texts("ab", 4)
	takenBy := func(p string) (l []string) {
		x := parsed(t, p)
		for _, text := range all {
			if takes(t, x, text) {
				l = append(l, text)
			}
		}
		return l
	}
	l := []string{"", "a", "b", "ab", "ba", "a|b", "a*", "a+", "(ab)*", "(ab)+", "ab*", "ab+", "a*b", "a+b", "a?b", "ab?", "(a|b)*", "(a|b)+", "..", "a*b*", "(a*b)*", "[^\\x00-\\xff]", "a|", "b|"}
	for i, p := range l {
		for _, q := range l[:i] {
			if slices.Equal(takenBy(p), takenBy(q)) {
				t.Errorf("%q and %q take the same", p, q)
			}
		}
	}
}
