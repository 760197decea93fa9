package words_test

import (
	"slices"
	"strings"
	"testing"

	"incunable/api"
	"incunable/words"
)

// mixer makes numbers that look like chance and are always the same.
type mixer uint64

func (m *mixer) next() uint32 {
	*m = *m*6364136223846793005 + 1442695040888963407
	return uint32(*m >> 32)
}

func (m *mixer) below(n int) int {
	return int(m.next() % uint32(n))
}

// one is one of some texts.
func (m *mixer) one(l ...string) string {
	return l[m.below(len(l))]
}

// text is bytes of some letters.
func (m *mixer) text(letters string, n int) string {
	b := make([]byte, n)
	for i := range b {
		b[i] = letters[m.below(len(letters))]
	}
	return string(b)
}

// bytes are n of all 256.
func (m *mixer) bytes(n int) string {
	b := make([]byte, n)
	for i := range b {
		b[i] = byte(m.below(256))
	}
	return string(b)
}

// The bytes of names and of paths, listed; those with which no name begins are digits.
const (
	digitBytes = "0123456789"
	smallBytes = "abcdefghijklmnopqrstuvwxyz"
	nameBytes  = smallBytes + "ABCDEFGHIJKLMNOPQRSTUVWXYZ_" + digitBytes
	pathBytes  = smallBytes + digitBytes + "._-/"
	signBytes  = "=;:|"
	gapBytes   = " \t\n\r"
)

// language are the words of the language, the first one of the kind 5.
func language() []string {
	return []string{"import", "start", "term", "skip", "left", "right", "none", "rule", "prec"}
}

// byteOf is a byte as a text.
func byteOf(c int) string {
	return string([]byte{byte(c)})
}

// listed tells whether all bytes of a text are in a list.
func listed(text, list string) bool {
	for i := range len(text) {
		if !strings.Contains(list, text[i:i+1]) {
			return false
		}
	}
	return true
}

// wordOf is the word of a kind, from a place on, below another one.
func wordOf(kind, from, to int) api.Token {
	return api.Token{Kind: kind, From: from, To: to}
}

// isCut fails unless bytes are cut into these words.
func isCut(t *testing.T, text string, want ...api.Token) {
	t.Helper()
	if l, at, e := words.Cut([]byte(text)); !slices.Equal(l, want) || at != 0 || e != api.OK {
		t.Fatalf("Cut(%.60q) = %v, %d, %d, want %v", text, l, at, e, want)
	}
}

// isWord fails unless a text is one word of that kind, alone, and with blanks, a sign or nothing but an end of a line around it.
func isWord(t *testing.T, text string, kind int) {
	t.Helper()
	n := len(text)
	isCut(t, text, wordOf(kind, 0, n))
	isCut(t, " "+text+"\n", wordOf(kind, 1, n+1))
	isCut(t, ";"+text+";", wordOf(words.Sign, 0, 1), wordOf(kind, 1, n+1), wordOf(words.Sign, n+1, n+2))
}

// isNoWord fails unless Cut answers ErrWord at the beginning of a text, also where words stand ahead of it, and words, blanks or nothing behind.
func isNoWord(t *testing.T, text string) {
	t.Helper()
	isCutTo(t, text, 0)
	isCutTo(t, text+"\nterm", 0)
	isCutTo(t, ";;x = "+text, 6)
	isCutTo(t, "\t# \"a\" "+byteOf(10)+"/x/"+text+byteOf(13)+"\"a\" /b/", 11)
}

// isCutTo fails unless Cut answers ErrWord, and that place, and no words.
func isCutTo(t *testing.T, text string, place int) {
	t.Helper()
	if l, at, e := words.Cut([]byte(text)); len(l) != 0 || at != place || e != api.ErrWord {
		t.Fatalf("Cut(%.60q) = %v, %d, %d, want ErrWord at %d", text, l, at, e, place)
	}
}

// isTooLong fails unless Cut answers ErrLimit, and nothing else.
func isTooLong(t *testing.T, text string) {
	t.Helper()
	if l, at, e := words.Cut([]byte(text)); len(l) != 0 || at != 0 || e != api.ErrLimit {
		t.Fatalf("Cut(%.60q) = %v, %d, %d, want ErrLimit", text, l, at, e)
	}
}

// What stands from here on reads the chapter's words as they stand, byte by byte, and asks all pieces.

// slowIsName tells whether a text may be a name.
func slowIsName(s string) bool {
	return 1 <= len(s) && len(s) <= 24 && listed(s, nameBytes) && !listed(s[:1], digitBytes) && !slices.Contains(language(), s)
}

// slowIsPath tells whether a text may be a path.
func slowIsPath(s string) bool {
	return 1 <= len(s) && len(s) <= 32 && listed(s, pathBytes)
}

// slowIsPattern tells whether a text may be a pattern.
func slowIsPattern(s string) bool {
	for i := range len(s) {
		alone := !isEscaped(s, i)
		switch {
		case s[i] == 10, s[i] == 13, s[i] == '/' && alone, s[i] == '\\' && alone && i+1 == len(s):
			return false
		}
	}
	return true
}

// isEscaped tells whether the byte at a place has a \ ahead of it that has none ahead of it in this way.
func isEscaped(s string, place int) bool {
	from := place
	for from > 0 && s[from-1] == '\\' {
		from--
	}
	return (place-from)%2 == 1
}

// slowKind is the kind of a text that is a word, else 0.
func slowKind(s string) int {
	kind := slices.Index(language(), s)
	switch {
	case kind >= 0:
		return 5 + kind
	case slowIsName(s):
		return 1
	case len(s) > 2 && s[0] == '"' && s[len(s)-1] == '"' && slowIsPath(s[1:len(s)-1]):
		return 2
	case len(s) > 1 && s[0] == '/' && s[len(s)-1] == '/' && slowIsPattern(s[1:len(s)-1]):
		return 3
	case len(s) == 1 && listed(s, signBytes):
		return 4
	}
	return 0
}

// slowWord is the word from a place on; false, if there is none.
func slowWord(text string, at int) (api.Token, bool) {
	for to := len(text); to > at; to-- {
		piece, behind := text[at:to], text[to:]
		if listed(piece, nameBytes) && behind != "" && listed(behind[:1], nameBytes) {
			continue
		}
		if kind := slowKind(piece); kind != 0 {
			return wordOf(kind, at, to), true
		}
	}
	return api.Token{}, false
}

// slowGap is the first place from one on at which a word should begin, or the end.
func slowGap(text string, at int) int {
	remark := false
	for ; at < len(text); at++ {
		switch {
		case remark:
			remark = text[at] != 10
		case text[at] == '#':
			remark = true
		case !listed(text[at:at+1], gapBytes):
			return at
		}
	}
	return at
}

// slowCut are the words of bytes; or else the place of the first one that is none, and false.
func slowCut(text string) (l []api.Token, at int, is bool) {
	for at = slowGap(text, 0); at < len(text); at = slowGap(text, at) {
		word, is := slowWord(text, at)
		if !is {
			return nil, at, false
		}
		l, at = append(l, word), word.To
	}
	return l, 0, true
}

// isSlowCut fails unless Cut answers what the chapter's words say; it tells whether all are words.
func isSlowCut(t *testing.T, text string) ([]api.Token, bool) {
	t.Helper()
	l, at, is := slowCut(text)
	if is {
		isCut(t, text, l...)
	} else {
		isCutTo(t, text, at)
	}
	return l, is
}

// name is one that may be, or a word of the language.
func (m *mixer) name() string {
	if m.below(3) == 0 {
		return m.one(language()...)
	}
	s := m.text(nameBytes[:53], 1)
	return s + m.text(nameBytes, m.below(5)*m.below(2)+m.below(2)*m.below(20))
}

// path is one that may be.
func (m *mixer) path() string {
	return m.text(pathBytes, 1+m.below(6)*m.below(2)+m.below(2)*m.below(27))
}

// pattern is one that may be, of bytes of all sorts, and of those with a meaning above all.
func (m *mixer) pattern() (s string) {
	for range m.below(6) {
		c := m.one(m.bytes(1), "a", "#", "\"", " ")
		if listed(c, "\n\r\\/") {
			c = "\\\\"
		}
		s += m.one(c, "\\/", "\\\\", "\\"+strings.NewReplacer("\n", "n", "\r", "r").Replace(m.bytes(1)))
	}
	return s
}

// word is one of a file.
func (m *mixer) word() string {
	switch m.below(4) {
	case 0:
		return m.text(signBytes, 1)
	case 1:
		return "\"" + m.path() + "\""
	case 2:
		return "/" + m.pattern() + "/"
	}
	return m.name()
}

// gap is what may stand between words, something at least.
func (m *mixer) gap() (s string) {
	for range 1 + m.below(3) {
		s += m.one(" ", "\t", "\n", "\r", "#"+strings.ReplaceAll(m.one("", " a", "\"", "/x", "# ;", m.bytes(5)), "\n", "")+"\n")
	}
	return s
}

// broken is what may be none of a file, or the end of one.
func (m *mixer) broken() string {
	return m.one("\"", "/", "\\", "\"\"", "/a\n/", "\"a b\"", "\"A\"", "9", "a.b", "é", "\"a\n\"", "/\\\n/", "#", m.bytes(1), m.bytes(3), m.text(nameBytes, 25), "\""+m.text(pathBytes, 33)+"\"")
}

// file is bytes of a file, which may be broken: words with gaps between, or none.
func (m *mixer) file() (s string) {
	hurt := m.below(2) * 20
	for range m.below(8) {
		switch {
		case hurt > 0 && m.below(hurt) == 0:
			s += m.broken()
		case m.below(3) > 0:
			s += m.word()
		default:
			s += m.word() + m.gap()
		}
	}
	return s
}
