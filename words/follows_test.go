package words_test

import (
	"strings"
	"testing"

	"incunable/api"
	"incunable/dfa"
	"incunable/least"
	"incunable/munch"
	"incunable/nfa"
	"incunable/regex"
	"incunable/words"
)

// isGap tells whether nothing but what may stand between words does, and a word may begin behind it.
func isGap(s string) bool {
	return slowGap(s+"x", 0) == len(s)
}

// isWhatItIs fails unless a word's piece is one of its kind, by the other calls of the package.
func isWhatItIs(t *testing.T, piece string, kind int) {
	t.Helper()
	is := false
	switch kind {
	case words.Name:
		is = words.IsName(piece)
	case words.Path:
		is = len(piece) > 2 && piece[0] == '"' && piece[len(piece)-1] == '"' && words.IsPath(piece[1:len(piece)-1])
	case words.Pattern:
		is = len(piece) > 1 && piece[0] == '/' && piece[len(piece)-1] == '/' && words.IsPattern(piece[1:len(piece)-1])
	case words.Sign:
		is = len(piece) == 1 && listed(piece, signBytes)
	default:
		is = piece != "" && words.Spelled(kind) == piece
	}
	if !is {
		t.Fatalf("%q is told as a word of the kind %d", piece, kind)
	}
}

// P14.4: words stand in order, none on another one's bytes; between them stands what may; each, alone, is cut as that word, and is what its kind says.
func TestWordsAlone(t *testing.T) {
	m := mixer(4)
	many := 0
	for range 20000 {
		text := m.file()
		l, _, e := words.Cut([]byte(text))
		if e != api.OK {
			continue
		}
		end := 0
		for _, word := range l {
			if word.From < end || word.To <= word.From || word.To > len(text) {
				t.Fatalf("%q: %v behind %d", text, word, end)
			}
			gap, piece := text[end:word.From], text[word.From:word.To]
			if !isGap(gap) {
				t.Fatalf("%q: %q stands between words", text, gap)
			}
			isCut(t, piece, wordOf(word.Kind, 0, len(piece)))
			isWhatItIs(t, piece, word.Kind)
			end = word.To
			many++
		}
		// A remark behind the last word may end with the text.
		if slowGap(text[end:], 0) < len(text)-end {
			t.Fatalf("%q: %q stands behind the last word", text, text[end:])
		}
	}
	if many < 10000 {
		t.Errorf("%d words", many)
	}
}

// isOneWord tells whether a text is cut into one word, of that kind, which is all of it.
func isOneWord(text string, kind int) bool {
	l, _, e := words.Cut([]byte(text))
	return e == api.OK && len(l) == 1 && l[0] == wordOf(kind, 0, len(text))
}

// P14.4: names, paths and patterns are told just if IsName, IsPath and IsPattern say yes of what they are.
func TestToldJustIfTheyMayBe(t *testing.T) {
	m := mixer(5)
	var l []string
	for a := range 256 {
		for b := range 256 {
			l = append(l, byteOf(a)+byteOf(b))
		}
		l = append(l, byteOf(a), strings.Repeat(byteOf(a), 24), strings.Repeat(byteOf(a), 25), strings.Repeat(byteOf(a), 32), strings.Repeat(byteOf(a), 33))
	}
	for range 30000 {
		l = append(l, m.one(m.name(), m.path(), m.pattern(), m.broken(), m.word(), m.bytes(m.below(6)), m.text("a/\\\n\"#", m.below(9))))
	}
	for _, s := range append(l, language()...) {
		if is := isOneWord(s, 1); is != words.IsName(s) {
			t.Fatalf("%q: a word %t, IsName %t", s, is, !is)
		}
		if is := isOneWord("\""+s+"\"", 2); is != words.IsPath(s) {
			t.Fatalf("%q: a word %t, IsPath %t", s, is, !is)
		}
		if is := isOneWord("/"+s+"/", 3); is != words.IsPattern(s) {
			t.Fatalf("%q: a word %t, IsPattern %t", s, is, !is)
		}
	}
}

// pieces are words that may be, as they are written.
func (m *mixer) pieces() (l []string) {
	for range m.below(10) {
		l = append(l, m.word())
	}
	return l
}

// isCutInto fails unless bytes are cut into these pieces, at their places: each behind a gap, with the last gap behind them.
func isCutInto(t *testing.T, pieces, gaps []string) {
	t.Helper()
	var want []api.Token
	text := gaps[0]
	for i, s := range pieces {
		want = append(want, wordOf(slowKind(s), len(text), len(text)+len(s)))
		text += s + gaps[i+1]
	}
	isCut(t, text, want...)
}

// P14.5: words with blanks between them are cut as these words, and so they are with anything else between that may stand there, ahead of them and behind them too.
func TestWordsWithGapsBetween(t *testing.T) {
	m := mixer(6)
	for range 5000 {
		l := m.pieces()
		blanks, gaps := []string{""}, []string{m.gap()}
		for range l {
			blanks, gaps = append(blanks, " "), append(gaps, m.gap())
		}
		isCutInto(t, l, blanks)
		isCutInto(t, l, gaps)
		gaps[len(l)] = m.one("#", "# x", "", "\r#\r", " # \"/")
		isCutInto(t, l, gaps)
	}
}

// P14.5: blanks, ends of lines and remarks that are put in between the words of files of all sorts change nothing but places.
func TestGapsThatArePutIn(t *testing.T) {
	m := mixer(7)
	put := 0
	for range 10000 {
		text := m.file()
		l, at, e := words.Cut([]byte(text))
		if e != api.OK {
			// The words ahead of the place; what is none of them comes behind, whole.
			l, _, _ = words.Cut([]byte(text[:at]))
		}
		longer, end := m.gap(), 0
		var want []api.Token
		for _, word := range l {
			longer += text[end:word.From]
			from := len(longer)
			longer += text[word.From:word.To]
			want = append(want, wordOf(word.Kind, from, len(longer)))
			longer += m.gap()
			end = word.To
			put++
		}
		if e != api.OK {
			place := len(longer) + at - end
			isCutTo(t, longer+text[end:], place)
			continue
		}
		isCut(t, longer+text[end:], want...)
	}
	if put < 5000 {
		t.Errorf("%d gaps were put in", put)
	}
}

// scanner is a machine of the language's words: first those of the language, then names, paths, patterns, signs, and what stands between.
func scanner(t *testing.T) api.Dfa {
	t.Helper()
	patterns := append(language(), `[A-Za-z_][A-Za-z_0-9]*`, `"[a-z0-9._\-\/]+"`, `\/([^\\\/\n\r]|\\[^\n\r])*\/`, `[=;:|]`, `[ \t\n\r]+|#[^\n]*`)
	var l []api.Rex
	for _, p := range patterns {
		x, _, e := regex.Parse(p)
		if e != api.OK {
			t.Fatalf("Parse(%q): error %d", p, e)
		}
		l = append(l, x)
	}
	n, e := nfa.Of(l)
	d, f := dfa.Of(n)
	d, g := least.Of(d)
	if e != api.OK || f != api.OK || g != api.OK {
		t.Fatal("no machine", e, f, g)
	}
	return d
}

// scan are the words of bytes, as a machine cuts them.
func scan(d api.Dfa, text string) (l []api.Token, at int, is bool) {
	tokens, at, e := munch.Cut(d, []byte(text))
	kinds := []int{5, 6, 7, 8, 9, 10, 11, 12, 13, 1, 2, 3, 4, 0}
	for _, token := range tokens {
		kind, size := kinds[token.Kind], token.To-token.From
		switch {
		case kind == 0:
			continue
		case kind == 1 && size > 24, kind == 2 && size > 34:
			return nil, token.From, false
		}
		l = append(l, wordOf(kind, token.From, token.To))
	}
	if e != api.OK {
		return nil, at, false
	}
	return l, 0, true
}

// P14.1, P14.4: files are cut as a machine of the words' patterns cuts them, long ones too.
func TestCutAsAScannerCuts(t *testing.T) {
	d, m := scanner(t), mixer(8)
	cuts := 0
	isScanned := func(text string) {
		t.Helper()
		if l, at, is := scan(d, text); is {
			isCut(t, text, l...)
			cuts++
		} else {
			isCutTo(t, text, at)
		}
	}
	for range 5000 {
		isScanned(m.file())
		isScanned(m.text("a\"/\\#\n; 1", m.below(20)))
		isScanned(strings.Join(m.pieces(), m.one("", " ", "\n")))
	}
	for range 100 {
		long := ""
		for len(long) < 7000 {
			long += m.word() + m.gap()
		}
		isScanned(long)
		isScanned(long + m.broken())
		isScanned(long[:m.below(len(long))])
	}
	if cuts < 3000 {
		t.Errorf("%d texts were cut", cuts)
	}
}
