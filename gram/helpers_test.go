package gram_test

import (
	"fmt"
	"reflect"
	"slices"
	"strings"
	"testing"

	"incunable/api"
	"incunable/dfa"
	"incunable/gram"
	"incunable/least"
	"incunable/nfa"
	"incunable/regex"
	"incunable/words"
)

// plain is a deep copy of a file, in which no list is nil: two of these are alike just if the files' fields are the same, element by element.
func plain(f api.File) api.File {
	g := api.File{Imports: slices.Concat([]string{}, f.Imports), Start: f.Start, Terms: slices.Concat([]api.Term{}, f.Terms), Precs: []api.Prec{}, Rules: []api.Rule{}}
	for _, x := range f.Precs {
		g.Precs = append(g.Precs, api.Prec{Kind: x.Kind, Names: slices.Concat([]string{}, x.Names)})
	}
	for _, x := range f.Rules {
		r := api.Rule{Name: x.Name, Alts: []api.Alt{}}
		for _, way := range x.Alts {
			r.Alts = append(r.Alts, api.Alt{Syms: slices.Concat([]string{}, way.Syms), Prec: way.Prec})
		}
		g.Rules = append(g.Rules, r)
	}
	return g
}

// alike tells whether two files are, by the library's reading of it. Same is held against it, and used nowhere else.
func alike(a, b api.File) bool {
	return reflect.DeepEqual(plain(a), plain(b))
}

// told is a file as a test tells it, cut off if it is long.
func told(f api.File) string {
	s := fmt.Sprintf("%+v", f)
	return s[:min(len(s), 500)]
}

// isParsed fails unless bytes are parsed as that file.
func isParsed(t *testing.T, text string, want api.File) {
	t.Helper()
	if f, at, e := gram.Parse([]byte(text)); !alike(f, want) || at != 0 || e != api.OK {
		t.Fatalf("Parse(%.300q) = %s, %d, %d, want %s", text, told(f), at, e, told(want))
	}
}

// isRefused fails unless Parse answers that error, and that place, and no file.
func isRefused(t *testing.T, text string, place int, want api.Errno) {
	t.Helper()
	if f, at, e := gram.Parse([]byte(text)); !reflect.DeepEqual(f, api.File{}) || at != place || e != want {
		t.Fatalf("Parse(%.300q) = %s, %d, %d, want the error %d at %d", text, told(f), at, e, want, place)
	}
}

// isRefusedAt fails unless Parse answers ErrGram, and that place.
func isRefusedAt(t *testing.T, text string, place int) {
	t.Helper()
	isRefused(t, text, place, api.ErrGram)
}

// isPrinted fails unless a file may be, and is printed so.
func isPrinted(t *testing.T, f api.File, want string) {
	t.Helper()
	if e := gram.Check(f); e != api.OK {
		t.Fatalf("Check(%s) = %d", told(f), e)
	}
	if b, e := gram.Print(f); string(b) != want || e != api.OK {
		t.Fatalf("Print(%s) = %.300q, %d, want %.300q", told(f), b, e, want)
	}
}

// isTooLong fails unless a file may be, and has too many bytes.
func isTooLong(t *testing.T, f api.File) {
	t.Helper()
	if e := gram.Check(f); e != api.OK {
		t.Fatalf("Check(%s) = %d", told(f), e)
	}
	if b, e := gram.Print(f); len(b) != 0 || e != api.ErrLimit {
		t.Fatalf("Print(%s) = %d bytes, %d, want ErrLimit", told(f), len(b), e)
	}
}

// isNone fails unless a file may not be, and is not printed.
func isNone(t *testing.T, f api.File) {
	t.Helper()
	if e := gram.Check(f); e != api.ErrArg {
		t.Fatalf("Check(%s) = %d, want ErrArg", told(f), e)
	}
	if b, e := gram.Print(f); len(b) != 0 || e != api.ErrArg {
		t.Fatalf("Print(%s) = %.300q, %d, want ErrArg", told(f), b, e)
	}
}

// What stands from here on reads the chapter's words another way: a letter stands for each word, a pattern has the chapter's table, and the least machine of that pattern tells which rows of words are a file, and how far one goes on.

// wordLetters are the letters of words: names, paths, patterns, the signs, the words of the language by their kinds.
const wordLetters = "nqg=;:|istklroup"

// samples are words, one for each of the letters.
func samples() []string {
	l := []string{"e", "\"a\"", "/x/", "=", ";", ":", "|"}
	for kind := words.Import; kind <= words.LastKind; kind++ {
		l = append(l, words.Spelled(kind))
	}
	return l
}

// table is the chapter's, of the lines that may come in any number; that of a start comes once at most.
const (
	table    = `iq;|(t|k)n=g;|(l|r|o)nn*;|un:n*(pn)?(\|n*(pn)?)*;`
	language = `(` + table + `)*(sn;(` + table + `)*)?`
)

// machine is the least one that takes the letters of files. (It goes nowhere behind what is the beginning of none.)
func machine(t *testing.T) api.Dfa {
	t.Helper()
	x, _, e := regex.Parse(language)
	n, ofNet := nfa.Of([]api.Rex{x})
	d, ofMachine := dfa.Of(n)
	d, ofLeast := least.Of(d)
	if max(e, ofNet, ofMachine, ofLeast) != api.OK {
		t.Fatal("no machine", e, ofNet, ofMachine, ofLeast)
	}
	return d
}

// letter is that of a word.
func letter(kind int, word string) byte {
	switch kind {
	case words.Sign:
		return word[0]
	case words.Name, words.Path, words.Pattern:
		return wordLetters[kind-1]
	}
	return wordLetters[kind+2]
}

// step is where the machine goes by a word; -1: no file goes on with it.
func step(d api.Dfa, state int, c byte) int {
	return d.Next[state][d.Class[c]]
}

// slowParse reads bytes that are cut into words by the machine, line by line.
func slowParse(d api.Dfa, text string) (f api.File, at int, is bool) {
	l, _, _ := words.Cut([]byte(text))
	state := 0
	var line []string
	for _, w := range l {
		word := text[w.From:w.To]
		if state = step(d, state, letter(w.Kind, word)); state < 0 {
			return api.File{}, w.From, false
		}
		line = append(line, word)
		if word == ";" {
			slowLine(&f, line)
			line = nil
		}
	}
	if d.Rule[state] != 0 {
		return api.File{}, len(text), false
	}
	return f, 0, true
}

// slowLine adds what a whole line says.
func slowLine(f *api.File, l []string) {
	switch l[0] {
	case "import":
		f.Imports = append(f.Imports, l[1][1:len(l[1])-1])
	case "start":
		f.Start = l[1]
	case "term", "skip":
		f.Terms = append(f.Terms, api.Term{Name: l[1], Pattern: l[3][1 : len(l[3])-1], Skip: l[0] == "skip"})
	case "left", "right", "none":
		kind := map[string]int{"left": 1, "right": 2, "none": 3}[l[0]]
		f.Precs = append(f.Precs, api.Prec{Kind: kind, Names: slices.Clone(l[1 : len(l)-1])})
	case "rule":
		f.Rules = append(f.Rules, api.Rule{Name: l[1], Alts: slowWays(l[3 : len(l)-1])})
	}
}

// slowWays are words as ways: each goes up to the next | or the end.
func slowWays(l []string) (ways []api.Alt) {
	for {
		n := slices.Index(append(slices.Clone(l), "|"), "|")
		way := api.Alt{Syms: slices.Clone(l[:n])}
		if i := slices.Index(way.Syms, "prec"); i >= 0 {
			way.Syms, way.Prec = way.Syms[:i], way.Syms[i+1]
		}
		ways = append(ways, way)
		if n == len(l) {
			return ways
		}
		l = l[n+1:]
	}
}

// isSlowlyParsed fails unless Parse answers what the table says of bytes that are cut into words; it tells whether they are a file.
func isSlowlyParsed(t *testing.T, d api.Dfa, text string) bool {
	t.Helper()
	f, at, is := slowParse(d, text)
	if is {
		isParsed(t, text, f)
	} else {
		isRefusedAt(t, text, at)
	}
	return is
}

// lineOf is words as they are written in a line.
func lineOf(l ...string) string {
	return strings.TrimSuffix(strings.Join(append(l, ";"), " "), " ;") + ";\n"
}

// slowLines are the lines of a file, as they are written.
func slowLines(f api.File) (l []string) {
	for _, path := range f.Imports {
		l = append(l, lineOf("import", "\""+path+"\""))
	}
	if f.Start != "" {
		l = append(l, lineOf("start", f.Start))
	}
	for _, x := range f.Terms {
		first := "term"
		if x.Skip {
			first = "skip"
		}
		l = append(l, lineOf(first, x.Name, "=", "/"+x.Pattern+"/"))
	}
	for _, x := range f.Precs {
		first := []string{"", "left", "right", "none"}[x.Kind]
		l = append(l, lineOf(first+" "+strings.Join(x.Names, " ")))
	}
	for _, x := range f.Rules {
		line := []string{"rule", x.Name, ":"}
		for _, way := range x.Alts {
			line = append(line, way.Syms...)
			if way.Prec != "" {
				line = append(line, "prec", way.Prec)
			}
			line = append(line, "|")
		}
		l = append(l, lineOf(line[:len(line)-1]...))
	}
	return l
}
