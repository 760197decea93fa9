package gram_test

import (
	"math"
	"slices"
	"strings"
	"testing"

	"incunable/api"
	"incunable/gram"
	"incunable/words"
)

// whole is a file that has three of each thing, all unlike.
func whole() api.File {
	return api.File{
		Imports: []string{"a.g", "b/c", "d"},
		Start:   "e",
		Terms:   []api.Term{{Name: "n", Pattern: "[0-9]+"}, {Name: "s", Pattern: " ", Skip: true}, {Name: "m", Pattern: "a\\/b"}},
		Precs:   []api.Prec{{Kind: 1, Names: []string{"p", "q", "r"}}, {Kind: 2, Names: []string{"u"}}, {Kind: 3, Names: []string{"v", "w"}}},
		Rules: []api.Rule{
			{Name: "e", Alts: []api.Alt{boundWay("p", "e", "n", "m"), wayOf(), wayOf("n")}},
			{Name: "f", Alts: []api.Alt{boundWay("q")}},
			{Name: "g", Alts: []api.Alt{wayOf("e", "f"), boundWay("r", "g", "n")}},
		},
	}
}

// goodNames are names that may be.
func goodNames() []string {
	return []string{"a", "A", "_", "a9", "_9", "terms", "aterm", "Term", "RULE", "import_", "a_b_C", strings.Repeat("n", 24), strings.Repeat("_", 24), "N" + strings.Repeat("0", 23)}
}

// badNames are texts that are no names, words of the language with them. (A text without bytes is none either; for a start, or a prec, it may stand all the same.)
func badNames() []string {
	l := []string{"9", "9a", "a b", " a", "a ", "a\n", "a-b", "a.b", "a/b", "\"a\"", "/a/", "é", "aé", "\xff", "a\x00", "\x00", ";", "=", ":", "|", "a;", "#", "a#b", strings.Repeat("n", 25), strings.Repeat("_", 25), strings.Repeat("n", 5000), "term n"}
	for kind := words.Import; kind <= words.LastKind; kind++ {
		l = append(l, words.Spelled(kind))
	}
	return l
}

func goodPaths() []string {
	return []string{"a", "9", ".", "_", "-", "/", "..", "a/b.g", "/a", "a/", "term", strings.Repeat("p", 32), strings.Repeat("/", 32)}
}

func badPaths() []string {
	return []string{"", "A", "aB", "a b", " a", "a ", "a\n", "a\"", "\"", "\"a\"", "a\\b", "a:b", "*", "é", "\xff", "\x00", "a#", "a;", strings.Repeat("p", 33), strings.Repeat("/", 33), strings.Repeat("p", 5000)}
}

func goodPatterns() []string {
	return []string{"", "a", " ", "\t", "#", ";", "\"", "\\/", "\\\\", "\\a", "a\\/", "\\\\\\/", "[^", "*(", "é", "\xff", "\x00", "term n = ", strings.Repeat("x", 1025), strings.Repeat("x", 5000)}
}

func badPatterns() []string {
	return []string{"/", "a/", "/a", "a/b", "\\", "a\\", "\\\\\\", "\\\\/", "\n", "\r", "a\nb", "a\n", "\ra", "\\\n", "\\\r", "\\\r\n", "/x/", strings.Repeat("x", 5000) + "/"}
}

// A place is one of a file's texts.
type place func(f *api.File) *string

// names are the places of names that must be there; those that may be "" are not with them.
func names() (l []place) {
	for i := range 3 {
		l = append(l,
			func(f *api.File) *string { return &f.Terms[i].Name },
			func(f *api.File) *string { return &f.Rules[i].Name },
			func(f *api.File) *string { return &f.Precs[0].Names[i] },
			func(f *api.File) *string { return &f.Rules[0].Alts[0].Syms[i] },
		)
	}
	return append(l,
		func(f *api.File) *string { return &f.Precs[1].Names[0] },
		func(f *api.File) *string { return &f.Precs[2].Names[1] },
		func(f *api.File) *string { return &f.Rules[0].Alts[2].Syms[0] },
		func(f *api.File) *string { return &f.Rules[2].Alts[0].Syms[1] },
		func(f *api.File) *string { return &f.Rules[2].Alts[1].Syms[0] },
		func(f *api.File) *string { return &f.Rules[2].Alts[1].Syms[1] },
	)
}

// namesOrNone are the places of names that may be "".
func namesOrNone() (l []place) {
	for i := range 3 {
		l = append(l, func(f *api.File) *string { return &f.Rules[0].Alts[i].Prec })
	}
	return append(l,
		func(f *api.File) *string { return &f.Start },
		func(f *api.File) *string { return &f.Rules[1].Alts[0].Prec },
		func(f *api.File) *string { return &f.Rules[2].Alts[0].Prec },
		func(f *api.File) *string { return &f.Rules[2].Alts[1].Prec },
	)
}

func paths() (l []place) {
	for i := range 3 {
		l = append(l, func(f *api.File) *string { return &f.Imports[i] })
	}
	return l
}

func patterns() (l []place) {
	for i := range 3 {
		l = append(l, func(f *api.File) *string { return &f.Terms[i].Pattern })
	}
	return l
}

// mayBeAt fails unless a file with these texts at each of these places may be.
func mayBeAt(t *testing.T, places []place, texts ...string) {
	t.Helper()
	for _, at := range places {
		for _, s := range texts {
			f := whole()
			*at(&f) = s
			if e := gram.Check(f); e != api.OK {
				t.Fatalf("Check = %d of %q in %s", e, s, told(f))
			}
		}
	}
}

// isNoneAt fails unless a file with one of these texts, at one of these places, may not be.
func isNoneAt(t *testing.T, places []place, texts ...string) {
	t.Helper()
	for _, at := range places {
		for _, s := range texts {
			f := whole()
			*at(&f) = s
			isNone(t, f)
		}
	}
}

// P15.2: a file of nothing, one that has all, and those that have one thing only, may be.
func TestFilesThatMayBe(t *testing.T) {
	isPrinted(t, api.File{}, "")
	isPrinted(t, api.File{Imports: []string{}, Terms: []api.Term{}, Precs: []api.Prec{}, Rules: []api.Rule{}}, "")
	for _, line := range tableLines() {
		if e := gram.Check(line.file); e != api.OK {
			t.Errorf("Check(%s) = %d", told(line.file), e)
		}
	}
	if e := gram.Check(whole()); e != api.OK {
		t.Errorf("Check of a whole file: %d", e)
	}
	m := mixer(5)
	for range 10000 {
		f := m.file()
		if e := gram.Check(f); e != api.OK {
			t.Fatalf("Check(%s) = %d", told(f), e)
		}
	}
}

// P15.2: names at each place, the start and precs of ways with them.
func TestCheckOfNames(t *testing.T) {
	all := append(names(), namesOrNone()...)
	mayBeAt(t, all, goodNames()...)
	isNoneAt(t, all, badNames()...)
	isNoneAt(t, names(), "")
	mayBeAt(t, namesOrNone(), "")
}

// P15.2: a start that is wrong, by itself.
func TestCheckOfStarts(t *testing.T) {
	for _, s := range badNames() {
		isNone(t, api.File{Start: s})
	}
	for _, s := range goodNames() {
		isPrinted(t, api.File{Start: s}, "start "+s+";\n")
	}
}

// P15.2: paths at each place, and one that is wrong by itself.
func TestCheckOfPaths(t *testing.T) {
	mayBeAt(t, paths(), goodPaths()...)
	isNoneAt(t, paths(), badPaths()...)
	for _, s := range badPaths() {
		isNone(t, api.File{Imports: []string{s}})
	}
	for n := range 100 {
		f := api.File{Imports: []string{strings.Repeat("a", n)}}
		if may := gram.Check(f) == api.OK; may != (1 <= n && n <= 32) {
			t.Errorf("a path of %d bytes: %t", n, may)
		}
	}
	for c := range 256 {
		s := "a" + string([]byte{byte(c)})
		if may := gram.Check(api.File{Imports: []string{s}}) == api.OK; may != strings.Contains(pathBytes, s[1:]) {
			t.Errorf("the path %q: %t", s, may)
		}
	}
}

// P15.2: patterns at each place, and one that is wrong by itself, of a term that is left out too.
func TestCheckOfPatterns(t *testing.T) {
	mayBeAt(t, patterns(), goodPatterns()...)
	isNoneAt(t, patterns(), badPatterns()...)
	for _, skip := range []bool{false, true} {
		for _, s := range badPatterns() {
			isNone(t, api.File{Terms: []api.Term{{Name: "n", Pattern: s, Skip: skip}}})
		}
		for _, s := range badNames() {
			isNone(t, api.File{Terms: []api.Term{{Name: s, Pattern: "x", Skip: skip}}})
		}
		isNone(t, api.File{Terms: []api.Term{{Pattern: "x", Skip: skip}}})
		isNone(t, api.File{Terms: []api.Term{{Skip: skip}}})
	}
}

// P15.2: kinds of precs, from 1 to 3 and all others, by themselves and among many.
func TestCheckOfKinds(t *testing.T) {
	for _, kind := range []int{0, 4, -1, -3, 5, 9, 11, 256 + 1, 1<<32 + 1, 1<<32 + 2, math.MaxInt32, math.MinInt32, math.MaxInt, math.MinInt, math.MaxInt - 8, math.MinInt + 1} {
		isNone(t, precFile(kind, "a"))
		for i := range 3 {
			f := whole()
			f.Precs[i].Kind = kind
			isNone(t, f)
		}
	}
	for kind := 1; kind <= 3; kind++ {
		for i := range 3 {
			f := whole()
			f.Precs[i].Kind = kind
			if e := gram.Check(f); e != api.OK {
				t.Errorf("the kind %d: %d", kind, e)
			}
		}
	}
}

// P15.2: precs of no names, and rules of no ways, by themselves and among many; ways of no names may be.
func TestCheckOfNothing(t *testing.T) {
	for i := range 3 {
		for _, none := range [][]string{nil, {}} {
			f := whole()
			f.Precs[i].Names = none
			isNone(t, f)
			isNone(t, precFile(i+1, none...))
			f = whole()
			f.Rules[0].Alts[i].Syms = none
			if e := gram.Check(f); e != api.OK {
				t.Errorf("a way of no names: %d", e)
			}
		}
		for _, none := range [][]api.Alt{nil, {}} {
			f := whole()
			f.Rules[i].Alts = none
			isNone(t, f)
			isNone(t, ruleFile("e", none...))
		}
	}
	isNone(t, api.File{Imports: []string{""}})
	isNone(t, api.File{Terms: make([]api.Term, 1)})
	isNone(t, api.File{Precs: make([]api.Prec, 1)})
	isNone(t, api.File{Rules: make([]api.Rule, 1)})
	isNone(t, ruleFile("", wayOf()))
	isNone(t, ruleFile("e", wayOf("")))
	isNone(t, ruleFile("e", boundWay("9")))
}

// manyOf is a file of n of each thing.
func manyOf(n int) (f api.File) {
	for range n {
		f.Imports = append(f.Imports, "a")
		f.Terms = append(f.Terms, api.Term{Name: "a"})
		f.Precs = append(f.Precs, api.Prec{Kind: 3, Names: slices.Repeat([]string{"a"}, n)})
		f.Rules = append(f.Rules, api.Rule{Name: "e", Alts: slices.Repeat([]api.Alt{wayOf("a")}, n)})
	}
	f.Rules[n-1].Alts[n-1] = wayOf(slices.Repeat([]string{"a"}, n)...)
	return f
}

// P15.2: the last one of many that is wrong.
func TestCheckOfTheLastOfMany(t *testing.T) {
	for _, n := range []int{1, 2, 5, 100, 300} {
		last := n - 1
		if e := gram.Check(manyOf(n)); e != api.OK {
			t.Fatalf("%d of each thing: error %d", n, e)
		}
		for _, spoil := range []func(f *api.File){
			func(f *api.File) { f.Imports[last] = "A" },
			func(f *api.File) { f.Terms[last].Name = "9" },
			func(f *api.File) { f.Terms[last].Pattern = "/" },
			func(f *api.File) { f.Precs[last].Kind = 4 },
			func(f *api.File) { f.Precs[last].Names = nil },
			func(f *api.File) { f.Precs[last].Names[last] = "" },
			func(f *api.File) { f.Rules[last].Name = "term" },
			func(f *api.File) { f.Rules[last].Alts = nil },
			func(f *api.File) { f.Rules[last].Alts[last].Prec = "none" },
			func(f *api.File) { f.Rules[last].Alts[last].Syms[last] = "" },
		} {
			f := manyOf(n)
			spoil(&f)
			isNone(t, f)
		}
	}
}

// P15.2: what a name is twice, or not at all, has no say; nor have names that are both a term's and a rule's.
func TestWhatCheckDoesNotAsk(t *testing.T) {
	for _, f := range []api.File{
		{Imports: []string{"a", "a"}},
		{Start: "e"},
		{Terms: []api.Term{{Name: "n"}, {Name: "n"}, {Name: "n", Skip: true}}},
		{Terms: []api.Term{{Name: "n", Pattern: "*"}, {Name: "m", Pattern: "[b-a]"}}},
		{Precs: []api.Prec{{Kind: 1, Names: []string{"a", "a"}}, {Kind: 1, Names: []string{"a"}}}},
		{Terms: []api.Term{{Name: "n"}}, Rules: []api.Rule{{Name: "n", Alts: []api.Alt{wayOf("x"), wayOf("x")}}, {Name: "n", Alts: []api.Alt{boundWay("y")}}}},
	} {
		if e := gram.Check(f); e != api.OK {
			t.Errorf("Check(%s) = %d", told(f), e)
		}
	}
}
