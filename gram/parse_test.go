package gram_test

import (
	"slices"
	"strings"
	"testing"

	"incunable/api"
	"incunable/gram"
)

// P15.1: the chapter's examples.
func TestParseOfTheExamples(t *testing.T) {
	isParsed(t, `import "a.g"; start e;`, api.File{Imports: []string{"a.g"}, Start: "e"})
	isParsed(t, `rule e : e plus e prec low | num |;`, ruleFile("e", api.Alt{Syms: []string{"e", "plus", "e"}, Prec: "low"}, wayOf("num"), wayOf()))
	isRefusedAt(t, `left ;`, 5)
	isRefusedAt(t, `term n = x;`, 9)
	isRefusedAt(t, `rule e : a`, 10)
}

// wayOf is a way of those names, without a prec.
func wayOf(names ...string) api.Alt {
	return api.Alt{Syms: names}
}

// boundWay is a way of those names, with a prec.
func boundWay(prec string, names ...string) api.Alt {
	return api.Alt{Syms: names, Prec: prec}
}

// ruleFile is a file of one rule.
func ruleFile(name string, ways ...api.Alt) api.File {
	return api.File{Rules: []api.Rule{{Name: name, Alts: ways}}}
}

// precFile is a file of one line of names that bind.
func precFile(kind int, names ...string) api.File {
	return api.File{Precs: []api.Prec{{Kind: kind, Names: names}}}
}

// P15.1: a file of lines of all sorts, in an order of their own, with all that may stand between words.
func TestParseOfAFile(t *testing.T) {
	text := "rule e:e plus e prec low|num|;# ways\r\nskip _=/[ \\t\\/]/;import\"a/b.g\";left a b c;\nterm num = /[0-9]+/ ;start\te;term Z9=//;" +
		"none x; import \"c\"; right plus;rule e : | ; rule f : prec low; skip s = /#;\\\\/;# rule"
	isParsed(t, text, api.File{
		Imports: []string{"a/b.g", "c"},
		Start:   "e",
		Terms:   []api.Term{{Name: "_", Pattern: "[ \\t\\/]", Skip: true}, {Name: "num", Pattern: "[0-9]+"}, {Name: "Z9"}, {Name: "s", Pattern: "#;\\\\", Skip: true}},
		Precs:   []api.Prec{{Kind: 1, Names: []string{"a", "b", "c"}}, {Kind: 3, Names: []string{"x"}}, {Kind: 2, Names: []string{"plus"}}},
		Rules: []api.Rule{
			{Name: "e", Alts: []api.Alt{boundWay("low", "e", "plus", "e"), wayOf("num"), wayOf()}},
			{Name: "e", Alts: []api.Alt{wayOf(), wayOf()}},
			{Name: "f", Alts: []api.Alt{boundWay("low")}},
		},
	})
}

// P15.1: no bytes, and bytes without words, are the empty file.
func TestParseOfNoWords(t *testing.T) {
	isParsed(t, "", api.File{})
	if f, at, e := gram.Parse(nil); !alike(f, api.File{}) || at != 0 || e != api.OK {
		t.Fatalf("Parse(nil) = %s, %d, %d", told(f), at, e)
	}
	for _, s := range []string{" ", "\n", "\t", "\r", "\r\n \t\n", "#", "# rule e : a", "#\n", "# ;\n\n# =\n ", strings.Repeat(" ", 8192), "#" + strings.Repeat(";", 8191)} {
		isParsed(t, s, api.File{})
	}
}

// P15.1: 8192 bytes may be a file, or are refused up to their end; more are refused ahead of any look at them.
func TestParseOfManyBytes(t *testing.T) {
	pad := strings.Repeat(" ", 8192)
	for _, n := range []int{8191, 8192} {
		isParsed(t, "start e;"+pad[:n-8], api.File{Start: "e"})
		isParsed(t, pad[:n-8]+"start e;", api.File{Start: "e"})
		isParsed(t, "term n=/"+strings.Repeat("x", n-10)+"/;", api.File{Terms: []api.Term{{Name: "n", Pattern: strings.Repeat("x", n-10)}}})
		isParsed(t, "rule e:"+strings.Repeat("|", n-8)+";", ruleFile("e", make([]api.Alt, n-7)...))
		isRefusedAt(t, "start e"+pad[:n-7], n)
		isRefusedAt(t, "start e;"+pad[:n-9]+";", n-1)
		isRefusedAt(t, strings.Repeat(";", n), 0)
		isRefused(t, ";"+pad[:n-2]+"!", n-1, api.ErrWord)
	}
	for _, n := range []int{8193, 8194, 20000} {
		rest := strings.Repeat(" ", n)
		for _, s := range []string{"", "start e;", ";", "start", "!", "; !", "# "} {
			isRefused(t, s+rest[len(s):], 0, api.ErrLimit)
			isRefused(t, rest[len(s):]+s, 0, api.ErrLimit)
		}
		isRefused(t, strings.Repeat(";", n), 0, api.ErrLimit)
		isRefused(t, strings.Repeat("\xff", n), 0, api.ErrLimit)
	}
}

// P15.1: bytes that are no word are told ahead of words that are no file, wherever these stand; bytes behind such a place have no say.
func TestBytesThatAreNoWords(t *testing.T) {
	for _, ahead := range []string{"", "start e; ", ";; ", "left ; ", "start e; start e; ", "rule e : ", "prec ", "rule e : a = ", "term n = x; ", "\"a\" ", "import \"a\"\n"} {
		for _, none := range []string{"!", "9", "\"\"", "\"A\"", "\"a", "/", "/a\n", "\\", "\xff", strings.Repeat("x", 25), "\"" + strings.Repeat("x", 33) + "\""} {
			for _, behind := range []string{"", ";", " ; ;", "\n;", "\nstart e;"} {
				if (none == "/" || none == "\\") && behind != "" && behind[0] == ';' {
					continue // it may go on
				}
				isRefused(t, ahead+none+behind, len(ahead), api.ErrWord)
			}
		}
	}
	isRefused(t, "; 9", 2, api.ErrWord)
	isRefused(t, "left ; x : /a", 11, api.ErrWord)
}

// A lineOfTable is a line, and the file that it is alone.
type lineOfTable struct {
	text string
	file api.File
}

// tableLines are lines of each kind of the table, two of the most of them.
func tableLines() []lineOfTable {
	return []lineOfTable{
		{`import "a.g";`, api.File{Imports: []string{"a.g"}}},
		{`start e;`, api.File{Start: "e"}},
		{`term n = /[0-9]+/;`, api.File{Terms: []api.Term{{Name: "n", Pattern: "[0-9]+"}}}},
		{`skip s = / /;`, api.File{Terms: []api.Term{{Name: "s", Pattern: " ", Skip: true}}}},
		{`left plus minus;`, precFile(1, "plus", "minus")},
		{`right pow;`, precFile(2, "pow")},
		{`none less;`, precFile(3, "less")},
		{`rule e : e plus e prec low | n |;`, ruleFile("e", boundWay("low", "e", "plus", "e"), wayOf("n"), wayOf())},
		{`import "b/c";`, api.File{Imports: []string{"b/c"}}},
		{`term m = //;`, api.File{Terms: []api.Term{{Name: "m"}}}},
		{`left up;`, precFile(1, "up")},
		{`rule f :;`, ruleFile("f", wayOf())},
	}
}

// joined is the file that has the lists of both, one behind the other, and the start of either.
func joined(f, g api.File) api.File {
	return api.File{
		Imports: slices.Concat(f.Imports, g.Imports),
		Start:   f.Start + g.Start,
		Terms:   slices.Concat(f.Terms, g.Terms),
		Precs:   slices.Concat(f.Precs, g.Precs),
		Rules:   slices.Concat(f.Rules, g.Rules),
	}
}

// P15.1: each line of the table alone, twice, and beside each other one, on one line and on two.
func TestEachLine(t *testing.T) {
	for _, a := range tableLines() {
		isParsed(t, a.text, a.file)
		isParsed(t, "\n"+a.text+"\n", a.file)
		for _, b := range tableLines() {
			for _, between := range []string{"", " ", "\n", "# ;\n"} {
				if a.file.Start != "" && b.file.Start != "" {
					isRefusedAt(t, a.text+between+b.text, len(a.text+between))
					continue
				}
				isParsed(t, a.text+between+b.text, joined(a.file, b.file))
			}
		}
	}
}

// orders hands on all orders of a list.
func orders(l []lineOfTable, done int, tell func(l []lineOfTable)) {
	if done == len(l) {
		tell(l)
		return
	}
	for i := done; i < len(l); i++ {
		l[done], l[i] = l[i], l[done]
		orders(l, done+1, tell)
		l[done], l[i] = l[i], l[done]
	}
}

// P15.1: lines of all kinds in every order, on one line and on many.
func TestLinesInEveryOrder(t *testing.T) {
	many := 0
	orders(tableLines()[:8], 0, func(l []lineOfTable) {
		var text string
		var f api.File
		for _, line := range l {
			text += line.text + []string{"\n", "", " "}[many%3]
			f = joined(f, line.file)
		}
		isParsed(t, text, f)
		many++
	})
	if many != 40320 {
		t.Errorf("%d orders", many)
	}
}

// P15.1: lines may stand in any number.
func TestManyLines(t *testing.T) {
	for _, line := range tableLines() {
		if line.file.Start != "" {
			continue
		}
		for _, n := range []int{3, 10, 200} {
			var f api.File
			for range n {
				f = joined(f, line.file)
			}
			isParsed(t, strings.Repeat(line.text, n), f)
		}
	}
}

// P15.1: left, right and none with one name and with many, the same ones too.
func TestNamesThatBind(t *testing.T) {
	for i, first := range []string{"left", "right", "none"} {
		isRefusedAt(t, first+";", len(first))
		isRefusedAt(t, first+" ;", len(first)+1)
		isRefusedAt(t, first, len(first))
		for n := 1; n < 60; n++ {
			names := strings.Fields(strings.Repeat("a b1 _ ", n))[:n]
			isParsed(t, first+" "+strings.Join(names, " ")+";", precFile(i+1, names...))
			isParsed(t, first+"\n"+strings.Join(names, "\n")+"\n;", precFile(i+1, names...))
			isRefusedAt(t, first+" "+strings.Join(names, " ")+" | ;", len(first+" "+strings.Join(names, " "))+1)
		}
	}
}

// P15.1: rules with one way and with many, of no name at the beginning, amid others and at the end.
func TestWays(t *testing.T) {
	a, b, none := wayOf("a"), wayOf("b", "c"), wayOf()
	for text, ways := range map[string][]api.Alt{
		"a":              {a},
		"b c":            {b},
		"":               {none},
		"|":              {none, none},
		"||":             {none, none, none},
		"a |":            {a, none},
		"| a":            {none, a},
		"a|b c":          {a, b},
		"a | | b c":      {a, none, b},
		"| a | b c |":    {none, a, b, none},
		"a | a | a":      {a, a, a},
		"|| b c ||":      {none, none, b, none, none},
		"e e e e e e e":  {wayOf("e", "e", "e", "e", "e", "e", "e")},
		"# |\n a # b\n|": {a, none},
	} {
		isParsed(t, "rule e : "+text+";", ruleFile("e", ways...))
		isParsed(t, "rule e:"+text+"\n ;\n", ruleFile("e", ways...))
	}
	for _, n := range []int{1, 2, 13, 100, 1000} {
		var ways []api.Alt
		for range n {
			ways = append(ways, b)
		}
		isParsed(t, "rule e : "+strings.Repeat("b c|", n-1)+"b c;", ruleFile("e", ways...))
		names := slices.Repeat([]string{"a"}, n)
		isParsed(t, "rule e : "+strings.Join(names, " ")+";", ruleFile("e", wayOf(names...)))
	}
}

// P15.1: prec stands behind all names of a way, once, and with one name; in any of the ways.
func TestPrecsOfWays(t *testing.T) {
	for text, ways := range map[string][]api.Alt{
		"a prec p":                   {boundWay("p", "a")},
		"prec p":                     {boundWay("p")},
		"a b c prec a":               {boundWay("a", "a", "b", "c")},
		"prec p | prec p":            {boundWay("p"), boundWay("p")},
		"| prec p |":                 {wayOf(), boundWay("p"), wayOf()},
		"a | b prec p | c":           {wayOf("a"), boundWay("p", "b"), wayOf("c")},
		"a prec p|b prec q|c prec r": {boundWay("p", "a"), boundWay("q", "b"), boundWay("r", "c")},
	} {
		isParsed(t, "rule e : "+text+";", ruleFile("e", ways...))
	}
	for text, place := range map[string]int{
		"a prec p b;":        9,
		"prec p a;":          7,
		"a prec;":            6,
		"prec;":              4,
		"a prec | b;":        7,
		"a prec p prec p;":   9,
		"prec p prec p;":     7,
		"a prec p b prec p;": 9,
		"a prec prec p;":     7,
		"a | b prec p q;":    13,
		"a prec p = b;":      9,
		"a prec \"p\";":      7,
		"a prec /p/;":        7,
		"a prec":             6,
		"a prec p":           8,
	} {
		isRefusedAt(t, "rule e : "+text, 9+place)
	}
	isRefusedAt(t, "prec p;", 0)
	isRefusedAt(t, "left a prec p;", 7)
	isRefusedAt(t, "start e prec p;", 8)
}

// P15.1: what is told of names, paths and patterns are their bytes, whatever these are.
func TestBytesOfWords(t *testing.T) {
	m := mixer(1)
	for range 5000 {
		a, b, path, pattern := m.name(), m.name(), m.path(), m.pattern()
		isParsed(t, "import \""+path+"\";", api.File{Imports: []string{path}})
		isParsed(t, "start "+a+";", api.File{Start: a})
		isParsed(t, "term "+a+"=/"+pattern+"/;", api.File{Terms: []api.Term{{Name: a, Pattern: pattern}}})
		isParsed(t, "skip "+a+"=/"+pattern+"/;", api.File{Terms: []api.Term{{Name: a, Pattern: pattern, Skip: true}}})
		isParsed(t, "none "+a+" "+b+";", precFile(3, a, b))
		isParsed(t, "rule "+a+":"+b+" "+a+" prec "+b+";", ruleFile(a, boundWay(b, b, a)))
	}
}

// P15.1: what was written, in any order of lines, with anything between words, is parsed as it was.
func TestParseOfAllSorts(t *testing.T) {
	m := mixer(2)
	many := 0
	for range 10000 {
		f := m.file()
		text := m.laid(f)
		if len(text) > 8192 {
			isRefused(t, text, 0, api.ErrLimit)
			continue
		}
		isParsed(t, text, f)
		many += len(f.Rules)
	}
	if many < 5000 {
		t.Errorf("%d rules", many)
	}
}
