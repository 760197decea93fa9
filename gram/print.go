package gram

import (
	"incunable/api"
	"incunable/words"
)

// Print writes a file.
func Print(f api.File) ([]byte, api.Errno) {
	if e := Check(f); e != api.OK {
		return nil, e
	}
	b := written(f)
	if len(b) > api.MaxSource {
		return nil, api.ErrLimit
	}
	return b, api.OK
}

// written is a file that may be as bytes, however many.
func written(f api.File) (b []byte) {
	line := func(kind int, behind ...string) {
		b = append(b, words.Spelled(kind)...)
		for _, word := range behind {
			b = append(b, ' ')
			b = append(b, word...)
		}
		b = append(b, semicolon+"\n"...)
	}
	for _, path := range f.Imports {
		line(words.Import, `"`+path+`"`)
	}
	if f.Start != "" {
		line(words.Start, f.Start)
	}
	for _, x := range f.Terms {
		line(termWord(x), x.Name, equals, "/"+x.Pattern+"/")
	}
	for _, x := range f.Precs {
		line(precWords+x.Kind, x.Names...)
	}
	for _, x := range f.Rules {
		line(words.Rule, behindRule(x)...)
	}
	return b
}

// termWord is the word with which a term's line begins.
func termWord(x api.Term) int {
	if x.Skip {
		return words.Skip
	}
	return words.Term
}

// behindRule are the words behind the first one of a rule's line.
func behindRule(x api.Rule) []string {
	l := []string{x.Name, colon}
	for i, way := range x.Alts {
		if i > 0 {
			l = append(l, bar)
		}
		l = append(l, way.Syms...)
		if way.Prec != "" {
			l = append(l, words.Spelled(words.Prec), way.Prec)
		}
	}
	return l
}
