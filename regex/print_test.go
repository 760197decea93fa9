package regex_test

import (
	"math/bits"
	"slices"
	"strings"
	"testing"

	"incunable/api"
	"incunable/regex"
)

// P9.3: the chapter's examples.
func TestPrintAsInTheExamples(t *testing.T) {
	isPrintedAs(t, star(seq(one('a'), one('b'))), "(ab)*")
	isPrintedAs(t, set(those('a', 'b', 'c', 'x')), "[a-cx]")
	isPrintedAs(t, set(full()), `[\x00-\xff]`)
}

// P9.3: each kind alone, and as each part of each kind: in brackets where need be, nowhere else.
func TestPrintOfKindsWithinKinds(t *testing.T) {
	x, c, d := one('x'), one('c'), one('d')
	parts := []*tree{none(), c, seq(c, d), alt(c, d), star(c), plus(c)}
	for _, w := range []struct {
		put  func(part *tree) *tree
		want []string
	}{
		{func(p *tree) *tree { return p }, []string{"()", "c", "cd", "c|d", "c*", "c+"}},
		{func(p *tree) *tree { return seq(p, x) }, []string{"()x", "cx", "cdx", "(c|d)x", "c*x", "c+x"}},
		{func(p *tree) *tree { return seq(x, p) }, []string{"x()", "xc", "x(cd)", "x(c|d)", "xc*", "xc+"}},
		{func(p *tree) *tree { return alt(p, x) }, []string{"()|x", "c|x", "cd|x", "c|d|x", "c*|x", "c+|x"}},
		{func(p *tree) *tree { return alt(x, p) }, []string{"x|()", "x|c", "x|cd", "x|(c|d)", "x|c*", "x|c+"}},
		{star, []string{"()*", "c*", "(cd)*", "(c|d)*", "c**", "c+*"}},
		{plus, []string{"()+", "c+", "(cd)+", "(c|d)+", "c*+", "c++"}},
	} {
		for i, part := range parts {
			isPrintedAs(t, w.put(part), w.want[i])
		}
	}
	isPrintedAs(t, seq(none(), none()), "()()")
	isPrintedAs(t, alt(none(), none()), "()|()")
	isPrintedAs(t, seqs(x, c, d), "xcd")
	isPrintedAs(t, alts(x, c, d), "x|c|d")
	isPrintedAs(t, seq(seq(x, c), seq(c, d)), "xc(cd)")
	isPrintedAs(t, alt(alt(x, c), alt(c, d)), "x|c|(c|d)")
	isPrintedAs(t, alt(seq(x, c), seq(c, d)), "xc|cd")
	isPrintedAs(t, seq(alt(x, c), alt(c, d)), "(x|c)(c|d)")
	isPrintedAs(t, seq(x, seq(c, seq(c, d))), "x(c(cd))")
	isPrintedAs(t, alt(x, alt(c, alt(c, d))), "x|(c|(c|d))")
	isPrintedAs(t, star(alt(seq(x, c), d)), "(xc|d)*")
	isPrintedAs(t, star(star(seq(x, c))), "(xc)**")
	isPrintedAs(t, plus(star(alt(x, c))), "(x|c)*+")
	isPrintedAs(t, perhaps(x), "x|()")
	isPrintedAs(t, seq(perhaps(x), c), "(x|())c")
}

// P9.3: sets of one byte, each of them.
func TestPrintOfOneByte(t *testing.T) {
	for c := range 256 {
		b := byte(c)
		want := string([]byte{b})
		switch {
		case b == 10:
			want = `\n`
		case b == 9:
			want = `\t`
		case b == 13:
			want = `\r`
		case listed(`()[]|*+?.\/`, b):
			want = `\` + want
		case b < 32 || b > 126:
			want = `\x` + hexBytes[c/16:c/16+1] + hexBytes[c%16:c%16+1]
		}
		isPrintedAs(t, one(b), want)
		isPrintedAs(t, star(one(b)), want+"*")
		isPrintedAs(t, seq(one(b), one('0')), want+"0")
	}
	isPrintedAs(t, one('^'), "^")
	isPrintedAs(t, one('-'), "-")
	isPrintedAs(t, one('n'), "n")
	isPrintedAs(t, one(' '), " ")
	isPrintedAs(t, one('~'), "~")
	isPrintedAs(t, one(0), `\x00`)
	isPrintedAs(t, one(127), `\x7f`)
	isPrintedAs(t, one(255), `\xff`)
}

// P9.3: sets of all bytes but one: all but 10 as a ., the others as classes of what they have not.
func TestPrintOfAllButOneByte(t *testing.T) {
	for c := range 256 {
		b := byte(c)
		want := "[^" + speltByte(b, classBytes) + "]"
		if b == 10 {
			want = "."
		}
		isPrintedAs(t, set(others(those(b))), want)
	}
	isPrintedAs(t, star(set(others(those(10)))), ".*")
	isPrintedAs(t, set(others(those(10, 13))), `[^\n\r]`)
	isPrintedAs(t, set(others(those(9, 10))), `[^\t\n]`)
}

// P9.3: of no bytes, of 127, 128, 129, of all but two and of all.
func TestPrintOfFewAndMany(t *testing.T) {
	isPrintedAs(t, set(api.Set{}), `[^\x00-\xff]`)
	isPrintedAs(t, set(full()), `[\x00-\xff]`)
	isPrintedAs(t, set(fromTo(0, 126)), `[\x00-~]`)
	isPrintedAs(t, set(fromTo(0, 127)), `[\x00-\x7f]`)
	isPrintedAs(t, set(fromTo(0, 128)), `[^\x81-\xff]`)
	isPrintedAs(t, set(fromTo(128, 255)), `[\x80-\xff]`)
	isPrintedAs(t, set(fromTo(127, 255)), `[^\x00-~]`)
	isPrintedAs(t, set(fromTo(1, 255)), `[^\x00]`)
	isPrintedAs(t, set(fromTo(0, 254)), `[^\xff]`)
	isPrintedAs(t, set(fromTo(1, 254)), `[^\x00\xff]`)
	isPrintedAs(t, set(fromTo(64, 191)), `[@-\xbf]`)
	isPrintedAs(t, set(fromTo(64, 192)), `[^\x00-?\xc1-\xff]`)
	isPrintedAs(t, set(others(fromTo('a', 'z'))), `[^a-z]`)
	m := mixer(10)
	for range 300 {
		for _, n := range []int{2, 3, 126, 127, 128, 129, 130, 253, 254} {
			var s api.Set
			for count(s) < n {
				c := byte(m.next())
				s[c/64] |= 1 << (c % 64)
			}
			p := printed(t, set(s).rex())
			if strings.HasPrefix(p, "[^") != (n > 128) {
				t.Fatalf("%d bytes: %q", n, p)
			}
			isPrintedAs(t, set(s), speltSet(s))
		}
	}
}

// P9.3: two bytes that follow each other stand alone, three and more are a range, at both ends of all bytes, too.
func TestPrintOfRanges(t *testing.T) {
	isPrintedAs(t, set(those('a', 'b')), "[ab]")
	isPrintedAs(t, set(those('a', 'c')), "[ac]")
	isPrintedAs(t, set(those('a', 'b', 'c')), "[a-c]")
	isPrintedAs(t, set(those('a', 'b', 'd')), "[abd]")
	isPrintedAs(t, set(those('a', 'c', 'd')), "[acd]")
	isPrintedAs(t, set(those('a', 'b', 'd', 'e')), "[abde]")
	isPrintedAs(t, set(those('a', 'b', 'd', 'e', 'f')), "[abd-f]")
	isPrintedAs(t, set(those('a', 'b', 'c', 'e', 'f')), "[a-cef]")
	isPrintedAs(t, set(those('a', 'b', 'c', 'e', 'f', 'g')), "[a-ce-g]")
	isPrintedAs(t, set(those(0, 1)), `[\x00\x01]`)
	isPrintedAs(t, set(those(0, 1, 2)), `[\x00-\x02]`)
	isPrintedAs(t, set(those(254, 255)), `[\xfe\xff]`)
	isPrintedAs(t, set(those(253, 254, 255)), `[\xfd-\xff]`)
	isPrintedAs(t, set(those(0, 255)), `[\x00\xff]`)
	isPrintedAs(t, set(those(0, 254, 255)), `[\x00\xfe\xff]`)
	isPrintedAs(t, set(those(0, 1, 254, 255)), `[\x00\x01\xfe\xff]`)
	isPrintedAs(t, set(those(63, 64)), `[?@]`)
	isPrintedAs(t, set(those(62, 63, 64, 65)), `[>-A]`)
	for from := range 256 {
		for n := 2; n < 5 && from+n <= 256; n++ {
			last := byte(from + n - 1)
			s := fromTo(byte(from), last)
			want := "[" + speltByte(byte(from), classBytes)
			if n > 2 {
				want += "-"
			}
			want += speltByte(last, classBytes) + "]"
			isPrintedAs(t, set(s), want)
			isPrintedAs(t, set(others(s)), "[^"+want[1:])
		}
	}
}

// P9.3: bytes that are escaped in a class: as ends of ranges too; and those that are not, though they are as atoms.
func TestPrintOfBytesInAClass(t *testing.T) {
	for c := range 256 {
		b := byte(c)
		want := string([]byte{b})
		switch {
		case b == 10:
			want = `\n`
		case b == 9:
			want = `\t`
		case b == 13:
			want = `\r`
		case listed(`[]\^-/`, b):
			want = `\` + want
		case b < 32 || b > 126:
			want = `\x` + hexBytes[c/16:c/16+1] + hexBytes[c%16:c%16+1]
		}
		if c < 250 {
			isPrintedAs(t, set(those(b, b+2)), "["+want+speltByte(b+2, classBytes)+"]")
			isPrintedAs(t, set(fromTo(b, b+4)), "["+want+"-"+speltByte(b+4, classBytes)+"]")
		}
		if c > 5 {
			isPrintedAs(t, set(those(b-2, b)), "["+speltByte(b-2, classBytes)+want+"]")
			isPrintedAs(t, set(fromTo(b-4, b)), "["+speltByte(b-4, classBytes)+"-"+want+"]")
		}
	}
	isPrintedAs(t, set(those('(', ')')), "[()]")
	isPrintedAs(t, set(those('|', '*', '+', '?', '.', '(', ')')), "[(-+.?|]")
	isPrintedAs(t, set(those('[', ']', '^', '-', '/', '\\')), `[\-\/\[-\^]`)
	isPrintedAs(t, set(those('^', 'a')), `[\^a]`)
	isPrintedAs(t, set(those('-', 'a')), `[\-a]`)
	isPrintedAs(t, set(others(those('^', '-'))), `[^\-\^]`)
	isPrintedAs(t, set(those('\t', '\n', '\r')), `[\t\n\r]`)
	isPrintedAs(t, set(fromTo('\t', '\r')), `[\t-\r]`)
	isPrintedAs(t, set(those('n', '\n')), `[\nn]`)
	isPrintedAs(t, set(those('+', ',', '-')), `[+-\-]`)
	isPrintedAs(t, set(those('-', '.', '/')), `[\--\/]`)
}

// P9.3: sets of all sorts, and patterns that look like chance, held against a writer that has the words in another way.
func TestPrintOfTrees(t *testing.T) {
	m := mixer(11)
	list := m.someSets(400)
	for _, s := range list {
		isPrintedAs(t, set(s), speltSet(s))
	}
	for range 3000 {
		x := m.tree(1+m.below(30), list)
		if want := spelt(x); len(want) <= api.MaxPat {
			isPrintedAs(t, x, want)
		} else {
			isTooLong(t, x)
		}
	}
	for _, l := range trees(6, those('a'), fromTo('a', 'c')) {
		for _, x := range l {
			isPrintedAs(t, x, spelt(x))
		}
	}
}

// isTooLong fails unless it can't be written, as it would have too many bytes.
func isTooLong(t *testing.T, x *tree) {
	t.Helper()
	if s, e := regex.Print(x.rex()); s != "" || e != api.ErrLimit {
		t.Fatalf("%d bytes: %q, %d", len(spelt(x)), s, e)
	}
}

// P9.3: 1024 bytes, and more: the brackets, the | and what stands behind count, too.
func TestPrintOfManyBytes(t *testing.T) {
	ten := set(those(0, 2)) // ten bytes
	var row []*tree
	for range 102 {
		row = append(row, ten)
	}
	most := append(slices.Clone(row), one(0))
	for _, x := range []*tree{seqs(most...), seqs(append(slices.Clone(row), one('a'), star(one('b')), one('c'))...), seq(seqs(row...), seq(one('a'), one('b'))), alt(seqs(row[:101]...), set(those(0, 1, 2, 'a', 'c'))), star(seqs(append(slices.Clone(row), one('a'))...))} {
		want := spelt(x)
		switch n := len(want); {
		case n == 1024:
			isPrintedAs(t, x, want)
		default:
			t.Fatalf("%d bytes", n)
		}
	}
	for _, x := range []*tree{seqs(append(slices.Clone(most), one('a'))...), star(seqs(most...)), alt(seqs(most...), none()), seqs(append(slices.Clone(row), one('a'), star(one('b')), one('\n'))...), plus(seqs(append(slices.Clone(row), one('a'), one('b'))...)), seqs(append(slices.Clone(row), ten)...)} {
		if len(spelt(x)) <= 1024 {
			t.Fatalf("%q has %d bytes", spelt(x), len(spelt(x)))
		}
		isTooLong(t, x)
	}
	half := fromTo(0, 0)
	for c := 0; c < 256; c += 2 {
		half[c/64] |= 1 << (c % 64)
	}
	var long []*tree
	for len(long) < 128 {
		long = append(long, set(half))
	}
	isTooLong(t, seqs(long...))
	isTooLong(t, alts(long...))
}

// P9.3: 1024 bytes are reached, one by one, and left.
func TestPrintByteByByte(t *testing.T) {
	m := mixer(12)
	seen := map[int]bool{}
	for range 600 {
		var l []*tree
		length := 0
		for length < 1010+m.below(30) {
			s := those(m.bytes(1 + m.below(80))...)
			length += len(speltSet(s))
			l = append(l, set(s))
		}
		x := seqs(l...)
		want := spelt(x)
		seen[len(want)] = true
		if len(want) <= 1024 {
			isPrintedAs(t, x, want)
		} else {
			isTooLong(t, x)
		}
	}
	if !seen[1024] || !seen[1025] {
		t.Errorf("%v", seen)
	}
}

// P9.3: however sets are written, it is their bytes that are: for each count of them.
func TestPrintOfEachCount(t *testing.T) {
	m := mixer(13)
	var s api.Set
	for n := range 257 {
		if got := bits.OnesCount64(s[0]) + bits.OnesCount64(s[1]) + bits.OnesCount64(s[2]) + bits.OnesCount64(s[3]); got != n {
			t.Fatalf("%d bytes, want %d", got, n)
		}
		isPrintedAs(t, set(s), speltSet(s))
		for n < 256 {
			if c := byte(m.next()); !isIn(s, c) {
				s[c/64] |= 1 << (c % 64)
				break
			}
		}
	}
}
