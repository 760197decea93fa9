package regex_test

import (
	"strings"
	"testing"

	"incunable/api"
	"incunable/regex"
)

// P9.2: the chapter's examples, node by node.
func TestParseAsInTheExamples(t *testing.T) {
	a, b := api.RNode{Kind: api.RexSet, Set: those('a')}, api.RNode{Kind: api.RexSet, Set: those('b')}
	for _, c := range []struct {
		pattern string
		want    []api.RNode
	}{
		{"ab*", []api.RNode{a, b, {Kind: api.RexStar, A: 1}, {Kind: api.RexSeq, A: 0, B: 2}}},
		{"a|", []api.RNode{a, {Kind: api.RexNil}, {Kind: api.RexAlt, A: 0, B: 1}}},
	} {
		if x := parsed(t, c.pattern); !same(x, api.Rex{L: c.want}) {
			t.Errorf("Parse(%q) = %v, want %v", c.pattern, x.L, c.want)
		}
	}
	isRefused(t, "(a", 2)
	isRefused(t, "a|*", 2)
	isRefused(t, "[b-a]", 3)
	isRefused(t, "[]", 1)
}

// P9.2: each byte alone is an atom, another pattern, or none.
func TestParseEachByte(t *testing.T) {
	for c := range 256 {
		b := byte(c)
		p := string([]byte{b})
		switch {
		case listed(atomBytes, b):
			isParsedAs(t, p, one(b))
		case b == '.':
			isParsedAs(t, p, set(others(those(10))))
		case b == '|':
			isParsedAs(t, p, alt(none(), none()))
		case listed(`([\`, b):
			isRefused(t, p, 1)
		default:
			isRefused(t, p, 0)
		}
	}
	if n := len(atomBytes); n != 127-32-len(`()[]|*+?.\/`) {
		t.Errorf("%d bytes stand for themselves", n)
	}
}

// P9.2: each escape: letters, two digits, signs; alone, and within a class.
func TestParseEscapes(t *testing.T) {
	for c := range 256 {
		p := `\` + string([]byte{byte(c)})
		if v, is := escaped(byte(c)); is {
			isParsedAs(t, p, one(v))
			isParsedAs(t, "["+p+"]", one(v))
			isParsedAs(t, "[^"+p+"]", set(others(those(v))))
		} else if c == 'x' {
			isRefused(t, p, 2)
		} else {
			isRefused(t, p, 1)
		}
	}
	for high := range 16 {
		for low := range 16 {
			p := `\x` + hexBytes[high:high+1] + hexBytes[low:low+1]
			v := byte(high*16 + low)
			isParsedAs(t, p, one(v))
			isParsedAs(t, p+"0", seq(one(v), one('0')))
			isParsedAs(t, "["+p+"]", one(v))
			isParsedAs(t, "["+p+"-"+p+"]", one(v))
		}
	}
	isParsedAs(t, `\n`, one(10))
	isParsedAs(t, `\t`, one(9))
	isParsedAs(t, `\r`, one(13))
	isParsedAs(t, `\x7f`, one(127))
	isParsedAs(t, `\/`, one('/'))
	isParsedAs(t, `\^`, one('^'))
	isParsedAs(t, `\-`, one('-'))
	isParsedAs(t, `\\`, one('\\'))
	isParsedAs(t, `\nn`, seq(one(10), one('n')))
	isParsedAs(t, `\**`, star(one('*')))
	isParsedAs(t, `\\*`, star(one('\\')))
}

// P9.2: classes of each form.
func TestParseClasses(t *testing.T) {
	for _, c := range []struct {
		pattern string
		want    api.Set
	}{
		{"[a]", those('a')},
		{"[ab]", those('a', 'b')},
		{"[ba]", those('a', 'b')},
		{"[aa]", those('a')},
		{"[a-c]", those('a', 'b', 'c')},
		{"[a-a]", those('a')},
		{"[a-b]", those('a', 'b')},
		{"[a-cx]", those('a', 'b', 'c', 'x')},
		{"[xa-c]", those('a', 'b', 'c', 'x')},
		{"[a-cb-d]", fromTo('a', 'd')},
		{"[a-cx-z]", those('a', 'b', 'c', 'x', 'y', 'z')},
		{"[^a]", others(those('a'))},
		{"[^a-z]", others(fromTo('a', 'z'))},
		{"[^ab-d]", others(fromTo('a', 'd'))},
		{`[\x00-\xff]`, full()},
		{`[^\x00-\xff]`, api.Set{}},
		{`[^\n]`, others(those(10))},
		{`[\n\t\r]`, those(9, 10, 13)},
		{`[\t-\r]`, fromTo(9, 13)},
		{`[a-\x7f]`, fromTo('a', 127)},
		{`[\x00-a]`, fromTo(0, 'a')},
		{`[\--\/]`, fromTo('-', '/')},
		{`[\[-\]]`, those('[', '\\', ']')},
		{`[\^a]`, those('^', 'a')},
		{`[^\^]`, others(those('^'))},
		{`[a\^]`, those('^', 'a')},
		{`[a\-z]`, those('a', '-', 'z')},
		{`[()|*+?.]`, those('(', ')', '|', '*', '+', '?', '.')},
		{`[(-+]`, those('(', ')', '*', '+')},
		{`[|]`, those('|')},
		{`[ -~]`, fromTo(32, 126)},
		{`[^ -~]`, others(fromTo(32, 126))},
		{`[\.]`, those('.')},
		{`[.]`, those('.')},
		{`[\x2d]`, those('-')},
		{`[a\x2dz]`, those('a', '-', 'z')},
	} {
		isParsedAs(t, c.pattern, set(c.want))
	}
	for c := range 256 {
		if b := byte(c); listed(classBytes, b) {
			p := string([]byte{b})
			isParsedAs(t, "["+p+"]", one(b))
			isParsedAs(t, "[^"+p+"]", set(others(those(b))))
			isParsedAs(t, `[`+p+`-\xff]`, set(fromTo(b, 255)))
			isParsedAs(t, `[\x00-`+p+`]`, set(fromTo(0, b)))
		}
	}
	if n := len(classBytes); n != 127-32-len(`[]\^-/`) {
		t.Errorf("%d bytes stand for themselves within classes", n)
	}
}

// P9.2: all ranges: those that rise, or stay, are patterns, the others are refused at their second byte.
func TestParseRanges(t *testing.T) {
	for from := range 256 {
		for to := range 256 {
			for _, first := range []string{speltByte(byte(from), ""), speltByte(byte(from), classBytes)} {
				p := "[" + first + "-" + speltByte(byte(to), classBytes) + "]"
				if from <= to {
					isParsedAs(t, p, set(fromTo(byte(from), byte(to))))
				} else {
					isRefused(t, p, len("["+first+"-"))
				}
			}
		}
	}
}

// P9.2: ways of none, one, two and more pieces; one way, two, and more.
func TestParseWays(t *testing.T) {
	a, b, c, d := one('a'), one('b'), one('c'), one('d')
	isParsedAs(t, "", none())
	isParsedAs(t, "a", a)
	isParsedAs(t, "ab", seq(a, b))
	isParsedAs(t, "abc", seq(seq(a, b), c))
	isParsedAs(t, "abcd", seq(seq(seq(a, b), c), d))
	isParsedAs(t, "|", alt(none(), none()))
	isParsedAs(t, "||", alt(alt(none(), none()), none()))
	isParsedAs(t, "|a", alt(none(), a))
	isParsedAs(t, "a|", alt(a, none()))
	isParsedAs(t, "a|b", alt(a, b))
	isParsedAs(t, "a||b", alt(alt(a, none()), b))
	isParsedAs(t, "a|b|c", alt(alt(a, b), c))
	isParsedAs(t, "a|b|c|d", alt(alt(alt(a, b), c), d))
	isParsedAs(t, "ab|cd", alt(seq(a, b), seq(c, d)))
	isParsedAs(t, "a|bc|d", alt(alt(a, seq(b, c)), d))
	isParsedAs(t, "ab*|c+d", alt(seq(a, star(b)), seq(plus(c), d)))
}

// P9.2: what is told of atoms, and pieces behind pieces.
func TestParsePieces(t *testing.T) {
	a, b, c := one('a'), one('b'), one('c')
	isParsedAs(t, "a*", star(a))
	isParsedAs(t, "a+", plus(a))
	isParsedAs(t, "a?", alt(a, none()))
	isParsedAs(t, "a**", star(star(a)))
	isParsedAs(t, "a*+", plus(star(a)))
	isParsedAs(t, "a+*", star(plus(a)))
	isParsedAs(t, "a??", alt(alt(a, none()), none()))
	isParsedAs(t, "a?*+", plus(star(alt(a, none()))))
	isParsedAs(t, "a+?*", star(alt(plus(a), none())))
	isParsedAs(t, "a*b+c?", seq(seq(star(a), plus(b)), alt(c, none())))
	isParsedAs(t, "ab*c", seq(seq(a, star(b)), c))
	isParsedAs(t, "abc*", seq(seq(a, b), star(c)))
	isParsedAs(t, ".*", star(set(others(those(10)))))
	isParsedAs(t, "[ab]+", plus(set(those('a', 'b'))))
	isParsedAs(t, `\x61?`, alt(a, none()))
	isParsedAs(t, "a.b", seqs(a, set(others(those(10))), b))
	isParsedAs(t, "^-", seq(one('^'), one('-')))
	isParsedAs(t, "a-z", seqs(a, one('-'), one('z')))
}

// P9.2: brackets, and brackets in brackets.
func TestParseBrackets(t *testing.T) {
	a, b, c := one('a'), one('b'), one('c')
	isParsedAs(t, "()", none())
	isParsedAs(t, "(())", none())
	isParsedAs(t, "(a)", a)
	isParsedAs(t, "((a))", a)
	isParsedAs(t, "()()", seq(none(), none()))
	isParsedAs(t, "()*", star(none()))
	isParsedAs(t, "(|)", alt(none(), none()))
	isParsedAs(t, "(a|b)", alt(a, b))
	isParsedAs(t, "(ab)*", star(seq(a, b)))
	isParsedAs(t, "(a|b)+", plus(alt(a, b)))
	isParsedAs(t, "(a*)*", star(star(a)))
	isParsedAs(t, "a(bc)", seq(a, seq(b, c)))
	isParsedAs(t, "(ab)c", seq(seq(a, b), c))
	isParsedAs(t, "a|(b|c)", alt(a, alt(b, c)))
	isParsedAs(t, "(a|b)|c", alt(alt(a, b), c))
	isParsedAs(t, "(a|b)c", seq(alt(a, b), c))
	isParsedAs(t, "a(b|c)", seq(a, alt(b, c)))
	isParsedAs(t, "((a|b)c)?", alt(seq(alt(a, b), c), none()))
	isParsedAs(t, "(a(b(c)))", seq(a, seq(b, c)))
	isParsedAs(t, "a()b", seqs(a, none(), b))
	isParsedAs(t, "[(](a)[)]", seqs(one('('), a, one(')')))
	isParsedAs(t, `\((a)\)`, seqs(one('('), a, one(')')))
}

// P9.2: 1024 bytes, and 1025; more of them are ErrLimit, be they a pattern or not.
func TestParseOfManyBytes(t *testing.T) {
	isParsedAs(t, brackets(512, ""), none())
	isParsedAs(t, brackets(511, "ab"), seq(one('a'), one('b')))
	isParsedAs(t, "["+strings.Repeat("a", 1022)+"]", one('a'))
	isRefused(t, strings.Repeat("(", 1024), 1024)
	isRefused(t, strings.Repeat(")", 1024), 0)
	isRefused(t, brackets(511, "a")+")", 1023)
	for _, p := range []string{brackets(512, "a"), "[" + strings.Repeat("a", 1023) + "]", strings.Repeat(")", 1025), strings.Repeat("a", 1025), strings.Repeat("(", 5000), strings.Repeat("\x00", 1025)} {
		x, at, e := regex.Parse(p)
		if len(x.L) != 0 || at != 0 || e != api.ErrLimit {
			t.Errorf("%d bytes: %v, %d, %d", len(p), x.L, at, e)
		}
	}
}

// isTooMany fails unless that is a pattern, but for its nodes, which are too many.
func isTooMany(t *testing.T, p string) {
	t.Helper()
	x, at, e := regex.Parse(p)
	if len(x.L) != 0 || at != 0 || e != api.ErrLimit {
		t.Fatalf("%q: %d nodes, at %d, error %d", p, len(x.L), at, e)
	}
}

// P9.2: 256 nodes, and 257, made in each way that nodes are made in.
func TestParseOfManyNodes(t *testing.T) {
	row := strings.Repeat("a", 127) // 253 nodes
	for _, p := range []string{row + "+++", row + "b+", row + "|", row + "?*", row + "[a-z]*", row + ".*", row + "()+", "(" + row + ")***", "|" + row + "*", row + "*|"} {
		isParsedAs(t, p, cut(p))
	}
	if n := len(parsed(t, row+"b+").L); n != 256 {
		t.Fatalf("%d nodes", n)
	}
	if n := len(parsed(t, row+"+++").L); n != 256 {
		t.Fatalf("%d nodes", n)
	}
	for _, p := range []string{row + "++++", row + "b++", row + "??", row + "bc", row + "||", row + `\x00.`, row + "()()", "(" + row + "bc)", strings.Repeat("a", 1024), strings.Repeat("|", 1024), strings.Repeat("a?", 512), strings.Repeat("()", 512)} {
		isTooMany(t, p)
	}
	for n := 1; n <= 300; n++ {
		p := strings.Repeat("+", n-1)
		if n <= 256 {
			x := parsed(t, "a"+p)
			if len(x.L) != n {
				t.Fatalf("%d nodes, want %d", len(x.L), n)
			}
		} else {
			isTooMany(t, "a"+p)
		}
	}
}

// P9.2: what is none is ErrPattern, however many nodes were there.
func TestParseRefusesAheadOfTooManyNodes(t *testing.T) {
	many := strings.Repeat("a", 300)
	isRefused(t, many+")", 300)
	isRefused(t, many+"|*", 301)
	isRefused(t, "("+many, 301)
	isRefused(t, many+"[", 301)
	isRefused(t, many+"\x00", 300)
}

// P9.2: all short patterns of some bytes, held against one who cuts them, and goes through them byte by byte.
func TestParseOfAllShortPatterns(t *testing.T) {
	were := map[bool]int{}
	for _, p := range texts("ab()[]|*\\x^-0", 5) {
		place, is := refusedAt(p)
		were[is]++
		if is {
			isRefused(t, p, place)
		} else {
			isParsedAs(t, p, cut(p))
		}
	}
	if were[true] < 10000 || were[false] < 10000 {
		t.Errorf("%v", were)
	}
}

// P9.2: the same of patterns in brackets of a class, which have more to say of ranges.
func TestParseOfAllShortClasses(t *testing.T) {
	for _, middle := range texts("az^-\\nx0f]", 5) {
		for _, p := range []string{"[" + middle, "[b-" + middle + "]"} {
			if place, is := refusedAt(p); is {
				isRefused(t, p, place)
			} else {
				isParsedAs(t, p, cut(p))
			}
		}
	}
}

// P9.2: long patterns of all sorts, and the same with a byte put otherwise, left out, put in, or cut off.
func TestParseOfPatterns(t *testing.T) {
	m := mixer(7)
	ask := func(p string) {
		place, is := refusedAt(p)
		switch {
		case len(p) > api.MaxPat:
			isTooMany(t, p)
		case is:
			isRefused(t, p, place)
		case cut(p).size() > api.MaxNodes:
			isTooMany(t, p)
		default:
			isParsedAs(t, p, cut(p))
		}
	}
	for range 4000 {
		p := m.pattern(m.below(4))
		if place, is := refusedAt(p); is {
			t.Fatalf("%q is no pattern, at %d", p, place)
		}
		ask(p)
		if len(p) == 0 {
			continue
		}
		i := m.below(len(p))
		ask(p[:i])
		ask(p[i:])
		ask(p[:i] + p[i+1:])
		for _, c := range []string{m.text("()[]|*+?.\\/^-xn0", 1), string(m.bytes(1))} {
			ask(p[:i] + c + p[i+1:])
			ask(p[:i] + c + p[i:])
		}
	}
}
