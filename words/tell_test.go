package words_test

import (
	"math"
	"strings"
	"testing"

	"incunable/words"
)

// P14.2: Spelled of each word of the language; other kinds have no bytes.
func TestSpelled(t *testing.T) {
	for i, s := range []string{"", "", "", "", "", "import", "start", "term", "skip", "left", "right", "none", "rule", "prec", ""} {
		if got := words.Spelled(i); got != s {
			t.Errorf("Spelled(%d) = %q, want %q", i, got, s)
		}
	}
	for _, kind := range []int{-1, -2, -5, -13, 14, 15, 16, 18, 1000, 256 + 5, 1<<32 + 5, math.MaxInt, math.MinInt, math.MinInt + 5, math.MaxInt32, math.MinInt32} {
		if got := words.Spelled(kind); got != "" {
			t.Errorf("Spelled(%d) = %q", kind, got)
		}
	}
}

// isTold fails unless IsName, IsPath and IsPattern tell this of a text.
func isTold(t *testing.T, s string, name, path, pattern bool) {
	t.Helper()
	if words.IsName(s) != name {
		t.Fatalf("IsName(%.60q) = %t", s, !name)
	}
	if words.IsPath(s) != path {
		t.Fatalf("IsPath(%.60q) = %t", s, !path)
	}
	if words.IsPattern(s) != pattern {
		t.Fatalf("IsPattern(%.60q) = %t", s, !pattern)
	}
}

// P14.2: of the text without bytes, and of some of all sorts.
func TestTold(t *testing.T) {
	for _, c := range []struct {
		s                   string
		name, path, pattern bool
	}{
		{"", false, false, true},
		{"a", true, true, true},
		{"A", true, false, true},
		{"_", true, true, true},
		{"a1", true, true, true},
		{"1a", false, true, true},
		{"a.g", false, true, true},
		{"a-b", false, true, true},
		{"a/b.g", false, true, false},
		{"a\\/b", false, false, true},
		{"a b", false, false, true},
		{" a", false, false, true},
		{"a\n", false, false, false},
		{"a\r", false, false, false},
		{"\na", false, false, false},
		{"\"a\"", false, false, true},
		{"/a/", false, true, false},
		{"\\", false, false, false},
		{"\\\\", false, false, true},
		{"\\\\\\", false, false, false},
		{"\\/", false, false, true},
		{"\\\\/", false, false, false},
		{"\\\n", false, false, false},
		{"\\\r", false, false, false},
		{"é", false, false, true},
		{"aé", false, false, true},
		{"éa", false, false, true},
		{"\xff", false, false, true},
		{"a\xff", false, false, true},
		{"\xc3", false, false, true},
		{"\xc3/", false, false, false},
		{"\xff\n", false, false, false},
		{"\ufffd", false, false, true},
		{"\u212a", false, false, true},
		{"ſ", false, false, true},
		{"term", false, true, true},
		{"Term", true, false, true},
		{"terms", true, true, true},
		{"term ", false, false, true},
	} {
		isTold(t, c.s, c.name, c.path, c.pattern)
	}
}

// P14.2: of texts of one byte, each of 256, and of two bytes.
func TestToldOfAllShortTexts(t *testing.T) {
	for a := range 256 {
		s := byteOf(a)
		isTold(t, s, listed(s, nameBytes[:53]), listed(s, pathBytes), s != "\n" && s != "\r" && s != "/" && s != "\\")
		for b := range 256 {
			s := byteOf(a) + byteOf(b)
			isTold(t, s, slowIsName(s), slowIsPath(s), slowIsPattern(s))
		}
	}
}

// P14.2: no word of the language may be a name; with one letter more or less, or a capital, it may.
func TestNamesAreNoWordsOfTheLanguage(t *testing.T) {
	for kind, s := range language() {
		if words.Spelled(5+kind) != s || words.IsName(s) {
			t.Errorf("%q may be a name", s)
		}
		isTold(t, s, false, true, true)
		for _, like := range []string{s + "s", "a" + s, s + "_", "_" + s, s + "1", s[1:], s[:len(s)-1]} {
			isTold(t, like, true, true, true)
		}
		isTold(t, strings.ToUpper(s), true, false, true)
		isTold(t, "1"+s, false, true, true)
	}
}

// P14.2: as many bytes as may be, and one more: 24 of names, 32 of paths; patterns have no such number.
func TestToldByLength(t *testing.T) {
	for n := 1; n < 200; n++ {
		for _, c := range []string{"a", "_", "z"} {
			isTold(t, strings.Repeat(c, n), n <= 24, n <= 32, true)
		}
		isTold(t, strings.Repeat("A", n), n <= 24, false, true)
		isTold(t, strings.Repeat("0", n), false, n <= 32, true)
		isTold(t, strings.Repeat("/", n), false, n <= 32, false)
		isTold(t, strings.Repeat("\\", n), false, false, n%2 == 0)
		isTold(t, strings.Repeat("é", n), false, false, true)
	}
	for _, n := range []int{1024, 1025, 8190, 8191, 8193, 1 << 20} {
		isTold(t, strings.Repeat("a", n), false, false, true)
		isTold(t, strings.Repeat("a", n)+"/", false, false, false)
		isTold(t, strings.Repeat("a", n)+"\n", false, false, false)
		isTold(t, strings.Repeat("\\/", n), false, false, true)
	}
}

// P14.2: each byte in a long text: at its beginning, within, at its end.
func TestToldOfEachByteInLongTexts(t *testing.T) {
	for c := range 256 {
		for _, n := range []int{22, 23, 24, 30, 31, 32} {
			for _, at := range []int{0, 1, n / 2, n} {
				s := strings.Repeat("a", at) + byteOf(c) + strings.Repeat("a", n-at)
				isTold(t, s, slowIsName(s), slowIsPath(s), slowIsPattern(s))
			}
		}
	}
}

// P14.2: texts of all sorts.
func TestToldOfAllSorts(t *testing.T) {
	m := mixer(3)
	names, paths, patterns := 0, 0, 0
	for range 50000 {
		s := m.one(m.name(), m.path(), m.pattern(), m.broken(), m.gap(), m.word(), m.bytes(m.below(5)), m.text("a/\\\n ", m.below(9)), m.text(nameBytes, m.below(30)), m.text(pathBytes, m.below(40)))
		isTold(t, s, slowIsName(s), slowIsPath(s), slowIsPattern(s))
		if slowIsName(s) {
			names++
		}
		if slowIsPath(s) {
			paths++
		}
		if slowIsPattern(s) {
			patterns++
		}
	}
	if min(names, 50000-names, paths, 50000-paths, patterns, 50000-patterns) < 5000 {
		t.Errorf("%d names, %d paths, %d patterns", names, paths, patterns)
	}
}
