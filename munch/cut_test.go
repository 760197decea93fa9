package munch_test

import (
	"strings"
	"testing"

	"incunable/api"
)

// so are so many tokens of one kind and as many bytes each.
func so(many, kind, bytes int) (l []api.Token) {
	for i := range many {
		l = append(l, tokenOf(kind, i*bytes, (i+1)*bytes))
	}
	return l
}

// P13.2: the chapter's examples.
func TestCutOfTheExample(t *testing.T) {
	d := example(t)
	isCut(t, d, "if iffy 12", tokenOf(0, 0, 2), tokenOf(2, 2, 3), tokenOf(1, 3, 7), tokenOf(2, 7, 8), tokenOf(3, 8, 10))
	isCutTo(t, d, "a!b", 1, tokenOf(1, 0, 1))
}

// P13.2: Next's errors of the machine and of the text, the machine's ahead; nothing is told beside them, also of texts that could be cut in part.
func TestErrorsOfCut(t *testing.T) {
	for _, r := range refusedOnes(t) {
		for _, text := range []string{"", "x", "xyz", strings.Repeat("x", 8192), strings.Repeat("x", 8193)} {
			isNoCut(t, r.d, text, r.e)
		}
	}
	for _, length := range []int{8193, 8194, 100000} {
		isNoCut(t, around(3), strings.Repeat("x", length), api.ErrLimit)
		isNoCut(t, row(-1, 3), strings.Repeat("x", length), api.ErrLimit)
		isNoCut(t, plain(1, 1), strings.Repeat("x", length), api.ErrLimit)
		isNoCut(t, example(t), strings.Repeat("a ", length/2)+"!", api.ErrLimit)
	}
}

// P13.2: the text without bytes has no tokens, and is cut: Next's errors of a place aren't told.
func TestCutOfNoBytes(t *testing.T) {
	for _, d := range []api.Dfa{example(t), plain(1, 1), row(7), around(7), around(-1, 7)} {
		isCut(t, d, "")
	}
}

// P13.2: texts of 8192 bytes, of one token, of as many as there are bytes, and of those that can't be cut at their ends.
func TestCutOfLongTexts(t *testing.T) {
	d := machineOf(t, "a", "[b]+", "ccc")
	for _, length := range []int{8191, 8192} {
		isCut(t, d, strings.Repeat("a", length), so(length, 0, 1)...)
		isCut(t, d, strings.Repeat("b", length), tokenOf(1, 0, length))
		isCutTo(t, d, strings.Repeat("b", length-1)+"!", length-1, tokenOf(1, 0, length-1))
		isCutTo(t, d, strings.Repeat("a", length-1)+"!", length-1, so(length-1, 0, 1)...)
		isCutTo(t, d, "!"+strings.Repeat("a", length-1), 0)
	}
	isCut(t, d, strings.Repeat("c", 8190), so(2730, 2, 3)...)
	isCutTo(t, d, strings.Repeat("c", 8191), 8190, so(2730, 2, 3)...)
	isCutTo(t, d, strings.Repeat("c", 8192), 8190, so(2730, 2, 3)...)
}

// P13.2: a text that can't be cut at its beginning has no tokens.
func TestNoTokenAtAll(t *testing.T) {
	d := example(t)
	for _, text := range []string{"!", "!a", "! if", "A", "\x00", "\xff12"} {
		isCutTo(t, d, text, 0)
	}
	for _, d := range []api.Dfa{plain(1, 1), row(7), around(-1), row(-1, -1, -1, -1, 5), machineOf(t), machineOf(t, "")} {
		isCutTo(t, d, "abc", 0)
	}
}

// P13.2: the first place at which there is no token is told, and what is behind it has no say.
func TestTheFirstPlaceWithoutToken(t *testing.T) {
	d := example(t)
	words := []api.Token{tokenOf(1, 0, 3), tokenOf(2, 3, 4), tokenOf(0, 4, 6), tokenOf(2, 6, 8), tokenOf(3, 8, 10)}
	for many, text := range map[int]string{1: "abc", 2: "abc ", 3: "abc if", 4: "abc if  ", 5: "abc if  12"} {
		isCut(t, d, text, words[:many]...)
		for _, behind := range []string{"!", "!!", "!a", "! if", "\x00\x00", "A", "!abc if  12"} {
			isCutTo(t, d, text+behind, len(text), words[:many]...)
		}
	}
	// The last token can't be told for want of a byte, or because nothing but its beginning is there.
	isCutTo(t, language(t), "if \"x", 3, tokenOf(0, 0, 2), tokenOf(5, 2, 3))
	isCutTo(t, language(t), "x /* y ", 2, tokenOf(2, 0, 1), tokenOf(5, 1, 2))
	isCutTo(t, machineOf(t, "abc"), "abcabcab", 6, so(2, 0, 3)...)
}

// P13.2: what is read beyond a token is given back: the next one begins there.
func TestCutGivesBack(t *testing.T) {
	d := machineOf(t, "a", "ab", "abcdef", "[cde]")
	isCut(t, d, "abcdeabcdef", tokenOf(1, 0, 2), tokenOf(3, 2, 3), tokenOf(3, 3, 4), tokenOf(3, 4, 5), tokenOf(2, 5, 11))
	isCutTo(t, d, "abcdefbcde", 6, tokenOf(2, 0, 6))
	// Behind each a the machine reads on to the end, as a b might come.
	d = machineOf(t, "a", "a*b")
	for _, many := range []int{1, 2, 100, 1000} {
		isCut(t, d, strings.Repeat("a", many), so(many, 0, 1)...)
		isCut(t, d, strings.Repeat("a", many)+"b", tokenOf(1, 0, many+1))
	}
	isCut(t, d, "aabaa", tokenOf(1, 0, 3), tokenOf(0, 3, 4), tokenOf(0, 4, 5))
}

// P13.2: each token begins at the machine's beginning, with no rule told yet.
func TestEachTokenBeginsAnew(t *testing.T) {
	isCut(t, row(-1, 5, -1), "xxxx", so(4, 5, 1)...)
	isCut(t, row(-1, -1, 5), "xxxx", so(2, 5, 2)...)
	isCutTo(t, row(-1, -1, 5), "xxxxx", 4, so(2, 5, 2)...)
	isCutTo(t, row(8, -1, 5), "x", 0)
	isCut(t, row(-1, 3, 2, 1), "xxxxxxxx", tokenOf(1, 0, 3), tokenOf(1, 3, 6), tokenOf(2, 6, 8))
	isCut(t, around(-1, -1, 4), "xxxxxxxx", tokenOf(4, 0, 8))
	isCutTo(t, around(-1, -1, 4), "xxxxxxxxx", 8, tokenOf(4, 0, 8))
}

// P13.2: a text of a language, with all kinds of tokens.
func TestCutOfALanguage(t *testing.T) {
	isCut(t, language(t), "if x1<=12.5/* ** */else \"a\\\"\"==elsee", tokenOf(0, 0, 2), tokenOf(5, 2, 3), tokenOf(2, 3, 5), tokenOf(6, 5, 7), tokenOf(3, 7, 11), tokenOf(7, 11, 19), tokenOf(1, 19, 23), tokenOf(5, 23, 24), tokenOf(4, 24, 29), tokenOf(6, 29, 31), tokenOf(2, 31, 36))
	isCutTo(t, language(t), "12.x", 2, tokenOf(3, 0, 2))
	isCut(t, language(t), "===", tokenOf(6, 0, 2), tokenOf(6, 2, 3))
}

// P13.2: all machines of two states and classes, and all short texts.
func TestCutByAllSmallMachines(t *testing.T) {
	list := texts("ab", 4)
	ways := []int{-1, 0, 1}
	whole, part := 0, 0
	for i := range 81 * 9 {
		pick := func() int {
			w := ways[i%3]
			i /= 3
			return w
		}
		d := api.Dfa{Class: classes("b"), Next: [][]int{{pick(), pick()}, {pick(), pick()}}, Rule: []int{pick(), pick()}}
		for _, text := range list {
			if _, all := isSlowCut(t, d, text); all {
				whole++
			} else {
				part++
			}
		}
	}
	if whole < 2000 || part < 2000 {
		t.Errorf("%d texts were cut, %d were not", whole, part)
	}
}
