package gram

import (
	"incunable/api"
	"incunable/words"
)

// noWord is the kind that is told where no word comes.
const noWord = 0

// Parse reads a file.
func Parse(b []byte) (f api.File, at int, e api.Errno) {
	l, at, e := words.Cut(b)
	if e != api.OK {
		return api.File{}, at, e
	}
	r := reader{text: b, left: l}
	for !r.stuck && len(r.left) > 0 {
		r.line()
	}
	if r.stuck {
		return api.File{}, r.place(), api.ErrGram
	}
	return r.file, 0, api.OK
}

// A reader goes through a file's words, and adds what they say to the file. Where one comes with which no file goes on the reader is stuck: it stays there, and whatever else is asked of it finds no word.
type reader struct {
	text  []byte
	left  []api.Token
	stuck bool
	file  api.File
}

// place is where the next word begins; at the end, how many bytes there are.
func (r *reader) place() int {
	if len(r.left) == 0 {
		return len(r.text)
	}
	return r.left[0].From
}

// look is the next word, with its kind.
func (r *reader) look() (kind int, word string) {
	if r.stuck || len(r.left) == 0 {
		return noWord, ""
	}
	next := r.left[0]
	return next.Kind, string(r.text[next.From:next.To])
}

// skips goes past the next word, if it is that one.
func (r *reader) skips(word string) bool {
	_, next := r.look()
	if next != word {
		return false
	}
	r.left = r.left[1:]
	return true
}

// want goes past that word, which must come next.
func (r *reader) want(word string) {
	if !r.skips(word) {
		r.stuck = true
	}
}

// take reads a word of that kind, which must come next.
func (r *reader) take(kind int) string {
	next, word := r.look()
	if next != kind {
		r.stuck = true
		return ""
	}
	r.left = r.left[1:]
	return word
}

// between reads a path or a pattern, without the bytes around it.
func (r *reader) between(kind int) string {
	word := r.take(kind)
	if r.stuck {
		return ""
	}
	return word[1 : len(word)-1]
}

// line reads a line.
func (r *reader) line() {
	var term api.Term
	switch kind := r.first(); kind {
	case words.Import:
		r.file.Imports = append(r.file.Imports, r.between(words.Path))
	case words.Start:
		r.file.Start = r.take(words.Name)
	case words.Skip:
		term.Skip = true
		fallthrough
	case words.Term:
		term.Name = r.take(words.Name)
		r.want(equals)
		term.Pattern = r.between(words.Pattern)
		r.file.Terms = append(r.file.Terms, term)
	case words.Left, words.Right, words.None:
		names := append([]string{r.take(words.Name)}, r.names()...)
		r.file.Precs = append(r.file.Precs, api.Prec{Kind: kind - precWords, Names: names})
	case words.Rule:
		r.file.Rules = append(r.file.Rules, r.rule())
	}
	r.want(semicolon)
}

// first reads the word with which a line begins, and tells its kind, from Import to Rule. A second start begins none.
func (r *reader) first() int {
	kind, _ := r.look()
	if kind < words.Import || kind > words.Rule || kind == words.Start && r.file.Start != "" {
		r.stuck = true
		return noWord
	}
	r.left = r.left[1:]
	return kind
}

// names reads as many names as there are.
func (r *reader) names() (l []string) {
	for kind, name := r.look(); kind == words.Name; kind, name = r.look() {
		l = append(l, name)
		r.left = r.left[1:]
	}
	return l
}

// rule reads what stands behind the first word of a rule.
func (r *reader) rule() api.Rule {
	x := api.Rule{Name: r.take(words.Name)}
	r.want(colon)
	x.Alts = append(x.Alts, r.way())
	for r.skips(bar) {
		x.Alts = append(x.Alts, r.way())
	}
	return x
}

// way reads one way of a rule.
func (r *reader) way() api.Alt {
	x := api.Alt{Syms: r.names()}
	if r.skips(words.Spelled(words.Prec)) {
		x.Prec = r.take(words.Name)
	}
	return x
}
