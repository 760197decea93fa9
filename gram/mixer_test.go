package gram_test

import (
	"slices"
	"strings"

	"incunable/api"
	"incunable/words"
)

// mixer makes numbers that look like chance and are always the same.
type mixer uint64

func (m *mixer) next() uint32 {
	*m = *m*6364136223846793005 + 1442695040888963407
	return uint32(*m >> 32)
}

func (m *mixer) below(n int) int {
	return int(m.next() % uint32(n))
}

// one is one of some texts.
func (m *mixer) one(l ...string) string {
	return l[m.below(len(l))]
}

// text is n bytes of some letters.
func (m *mixer) text(letters string, n int) string {
	b := make([]byte, n)
	for i := range b {
		b[i] = letters[m.below(len(letters))]
	}
	return string(b)
}

// bytes are n of all 256.
func (m *mixer) bytes(n int) string {
	b := make([]byte, n)
	for i := range b {
		b[i] = byte(m.below(256))
	}
	return string(b)
}

// few is a number below n, mostly a small one.
func (m *mixer) few(n int) int {
	return m.below(1 + m.below(n))
}

const (
	nameBytes = "abcdefghijklmnopqrstuvwxyzABCDEFGHIJKLMNOPQRSTUVWXYZ_0123456789"
	pathBytes = "abcdefghijklmnopqrstuvwxyz0123456789._-/"
)

// name is one that may be: also like a word of the language, and as long as may be.
func (m *mixer) name() string {
	s := m.one("a", "e", m.text(nameBytes[:53], 1)+m.text(nameBytes, m.few(24)), m.text(nameBytes[:53], 24), words.Spelled(5+m.below(9))+m.text(nameBytes, 1))
	if !words.IsName(s) {
		return "x"
	}
	return s
}

// path is one that may be.
func (m *mixer) path() string {
	return m.text(pathBytes, 1+m.few(32))
}

// names are n of them.
func (m *mixer) names(n int) (l []string) {
	for range n {
		l = append(l, m.name())
	}
	return l
}

// pattern is one that may be: also without bytes, of bytes of all sorts, like other words and like remarks.
func (m *mixer) pattern() (s string) {
	for range m.few(8) {
		s += m.one("a", "\\/", "\\\\", "\\n", " ", ";", " ;", "#", "\"", "=", "term", "[0-9]+", m.bytes(1), "\\"+m.bytes(1))
	}
	if !words.IsPattern(s) {
		return m.one("", "x")
	}
	return s
}

// way is one of a rule.
func (m *mixer) way() api.Alt {
	way := api.Alt{Syms: m.names(m.few(6))}
	if m.below(3) == 0 {
		way.Prec = m.name()
	}
	return way
}

// file is one that may be, of all sorts.
func (m *mixer) file() (f api.File) {
	for range m.few(4) {
		f.Imports = append(f.Imports, m.path())
	}
	if m.below(2) == 0 {
		f.Start = m.name()
	}
	for range m.few(5) {
		f.Terms = append(f.Terms, api.Term{Name: m.name(), Pattern: m.pattern(), Skip: m.below(2) == 0})
	}
	for range m.few(5) {
		f.Precs = append(f.Precs, api.Prec{Kind: 1 + m.below(3), Names: m.names(1 + m.few(5))})
	}
	for range m.few(5) {
		x := api.Rule{Name: m.name()}
		for range 1 + m.few(6) {
			x.Alts = append(x.Alts, m.way())
		}
		f.Rules = append(f.Rules, x)
	}
	return f
}

// gap is what may stand between words, something at least.
func (m *mixer) gap() (s string) {
	for range 1 + m.few(3) {
		s += m.one(" ", "\t", "\n", "\r", "\r\n", "#\n", "# start x;\n", "#\"/\r;\n", "#"+strings.ReplaceAll(m.bytes(4), "\n", "")+"\n")
	}
	return s
}

// mixed are lines in an order in which those of each sort still stand as they stood.
func (m *mixer) mixed(lines []string) (l []string) {
	sorts := map[string][]string{}
	for _, line := range lines {
		sort := sortOf(line)
		sorts[sort] = append(sorts[sort], line)
	}
	for len(l) < len(lines) {
		sort := m.one("i", "s", "t", "p", "r")
		if len(sorts[sort]) > 0 {
			l = append(l, sorts[sort][0])
			sorts[sort] = sorts[sort][1:]
		}
	}
	return l
}

// sortOf tells to which of a file's fields a line adds.
func sortOf(line string) string {
	first, _, _ := strings.Cut(line, " ")
	switch first {
	case "import":
		return "i"
	case "start":
		return "s"
	case "term", "skip":
		return "t"
	case "rule":
		return "r"
	}
	return "p"
}

// spread is text that is cut into words with other gaps between: any, and none where none need be.
func (m *mixer) spread(text string) string {
	l, _, _ := words.Cut([]byte(text))
	s := m.one("", m.gap())
	for i, w := range l {
		s += text[w.From:w.To]
		if i+1 < len(l) && isLettered(w.Kind) && isLettered(l[i+1].Kind) {
			s += m.gap()
		} else {
			s += m.one("", m.gap())
		}
	}
	return s
}

// isLettered tells whether words of a kind are letters, digits and _.
func isLettered(kind int) bool {
	return kind != words.Path && kind != words.Pattern && kind != words.Sign
}

// laid is bytes of a file: its lines, in an order of all that may be, with gaps of all sorts.
func (m *mixer) laid(f api.File) string {
	return m.spread(strings.Join(m.mixed(slowLines(f)), ""))
}

// hurt is a text with a few of its words taken away, doubled, changed into others, or with others put in.
func (m *mixer) hurt(text string) string {
	l, _, _ := words.Cut([]byte(text))
	var pieces []string
	for _, w := range l {
		pieces = append(pieces, text[w.From:w.To])
	}
	for range 1 + m.below(2) {
		at := m.below(len(pieces) + 1)
		other := m.one(samples()...)
		switch m.below(3) {
		case 0:
			pieces = slices.Insert(pieces, at, other)
		case 1:
			if at < len(pieces) {
				pieces = slices.Delete(pieces, at, at+1)
			}
		case 2:
			if at < len(pieces) {
				pieces[at] = other
			}
		}
	}
	return m.spread(strings.Join(pieces, " "))
}
