package gram_test

import (
	"slices"
	"strings"
	"testing"

	"incunable/api"
	"incunable/gram"
)

// P15.2: what is written, to the byte.
func TestPrint(t *testing.T) {
	isPrinted(t, api.File{Imports: []string{"a.g"}, Start: "e"}, "import \"a.g\";\nstart e;\n")
	isPrinted(t, ruleFile("e", boundWay("low", "e", "plus", "e"), wayOf("num"), wayOf()), "rule e : e plus e prec low | num |;\n")
	isPrinted(t, whole(), `import "a.g";
import "b/c";
import "d";
start e;
term n = /[0-9]+/;
skip s = / /;
term m = /a\/b/;
left p q r;
right u;
none v w;
rule e : e n m prec p | | n;
rule f : prec q;
rule g : e f | g n prec r;
`)
}

// P15.2: each line, by itself.
func TestPrintOfEachLine(t *testing.T) {
	for _, line := range tableLines() {
		isPrinted(t, line.file, line.text+"\n")
	}
	for kind, first := range []string{"left", "right", "none"} {
		isPrinted(t, precFile(kind+1, "a"), first+" a;\n")
		isPrinted(t, precFile(kind+1, "a", "a", "b"), first+" a a b;\n")
	}
	isPrinted(t, api.File{Terms: []api.Term{{Name: "n"}}}, "term n = //;\n")
	isPrinted(t, api.File{Terms: []api.Term{{Name: "n", Pattern: " ; ", Skip: true}}}, "skip n = / ; /;\n")
	isPrinted(t, api.File{Terms: []api.Term{{Name: "n", Pattern: "\xff\x00\\\\\t"}}}, "term n = /\xff\x00\\\\\t/;\n")
}

// P15.2: ways of no name, and precs, wherever they stand.
func TestPrintOfWays(t *testing.T) {
	a, none, bound := wayOf("a"), wayOf(), boundWay("p")
	for text, ways := range map[string][]api.Alt{
		":":                           {none},
		": |":                         {none, none},
		": | |":                       {none, none, none},
		": a":                         {a},
		": a |":                       {a, none},
		": | a":                       {none, a},
		": a | | a":                   {a, none, a},
		": a | a a":                   {a, wayOf("a", "a")},
		": prec p":                    {bound},
		": prec p |":                  {bound, none},
		": | prec p":                  {none, bound},
		": a prec p | prec p | b c |": {boundWay("p", "a"), bound, wayOf("b", "c"), none},
	} {
		isPrinted(t, ruleFile("e", ways...), "rule e "+text+";\n")
	}
}

// P15.2: lines stand by their sorts, and in each sort as they stood.
func TestPrintInOrder(t *testing.T) {
	l := tableLines()
	want := `import "a.g";` + "\n" + `import "b/c";` + "\n" + `start e;` + "\n" + `term n = /[0-9]+/;` + "\n" + `skip s = / /;` + "\n" + `term m = //;` + "\n" +
		`left plus minus;` + "\n" + `right pow;` + "\n" + `none less;` + "\n" + `left up;` + "\n" + `rule e : e plus e prec low | n |;` + "\n" + `rule f :;` + "\n"
	for _, order := range [][]int{{0, 1, 2, 3, 4, 5, 6, 7, 8, 9, 10, 11}, {7, 4, 11, 2, 3, 9, 5, 0, 8, 6, 10, 1}} {
		var f api.File
		for _, i := range order {
			f = joined(f, l[i].file)
		}
		isPrinted(t, f, want)
	}
	f := joined(l[5].file, joined(l[4].file, l[6].file))
	isPrinted(t, f, "right pow;\nleft plus minus;\nnone less;\n")
	isPrinted(t, joined(l[3].file, l[2].file), "skip s = / /;\nterm n = /[0-9]+/;\n")
}

// P15.2: files of all sorts are written as the chapter says.
func TestPrintOfAllSorts(t *testing.T) {
	m := mixer(6)
	many := 0
	for range 10000 {
		f := m.file()
		want := strings.Join(slowLines(f), "")
		if len(want) > 8192 {
			isTooLong(t, f)
			continue
		}
		isPrinted(t, f, want)
		many += len(want)
	}
	if many < 1000000 {
		t.Errorf("%d bytes", many)
	}
}

// P15.2: files of 8192 bytes are written, those of more not, whatever stands in them.
func TestPrintOfAsManyBytesAsMayBe(t *testing.T) {
	m := mixer(7)
	for range 300 {
		f := m.file()
		size := len(strings.Join(slowLines(f), ""))
		if size > 8000 {
			continue
		}
		for more := -2; more < 20; more++ {
			pad := strings.Repeat("x", 8192-size-len("term n = //;\n")+more)
			g := joined(f, api.File{Terms: []api.Term{{Name: "n", Pattern: pad}}})
			if more > 0 {
				isTooLong(t, g)
			} else {
				isPrinted(t, g, strings.Join(slowLines(g), ""))
			}
		}
	}
}

// P15.2: each sort of line alone, in as many as may be, and one byte more.
func TestPrintOfManyLines(t *testing.T) {
	for _, c := range []struct {
		size int // of one line
		line api.File
	}{
		{32, api.File{Imports: []string{strings.Repeat("p", 21)}}},
		{32, api.File{Terms: []api.Term{{Name: "n", Pattern: strings.Repeat("x", 19)}}}},
		{32, api.File{Terms: []api.Term{{Name: "n", Pattern: strings.Repeat("x", 19), Skip: true}}}},
		{32, precFile(1, strings.Repeat("n", 12), strings.Repeat("m", 12))},
		{32, precFile(3, "a", strings.Repeat("n", 12), strings.Repeat("m", 10))},
		{32, ruleFile("e", wayOf(strings.Repeat("n", 11)), wayOf("e", "f", "g"), wayOf())},
		{32, ruleFile("e", boundWay(strings.Repeat("n", 16)))},
	} {
		var f api.File
		for range 8192 / c.size {
			f = joined(f, c.line)
		}
		text := strings.Join(slowLines(f), "")
		if len(text) != 8192 {
			t.Fatalf("%d bytes of %s", len(text), told(c.line))
		}
		isPrinted(t, f, text)
		for _, other := range tableLines() {
			isTooLong(t, joined(f, other.file))
		}
		isTooLong(t, joined(joined(f, f), f))
	}
}

// P15.2: one line of many names, of as many bytes as may be, and of one more.
func TestPrintOfLongLines(t *testing.T) {
	names := func(n int, last string) []string {
		return append(slices.Repeat([]string{"a"}, n-1), last)
	}
	isPrinted(t, precFile(1, names(4093, "a")...), "left"+strings.Repeat(" a", 4093)+";\n")
	isTooLong(t, precFile(1, names(4093, "aa")...))
	isTooLong(t, precFile(1, names(4094, "a")...))
	isPrinted(t, precFile(2, names(4092, "aa")...), "right"+strings.Repeat(" a", 4092)+"a;\n")
	isTooLong(t, precFile(2, names(4092, "aaa")...))
	isPrinted(t, ruleFile("e", wayOf(names(4091, "a")...)), "rule e :"+strings.Repeat(" a", 4091)+";\n")
	isTooLong(t, ruleFile("ee", wayOf(names(4091, "a")...)))
	isPrinted(t, ruleFile("e", make([]api.Alt, 4092)...), "rule e :"+strings.Repeat(" |", 4091)+";\n")
	isTooLong(t, ruleFile("ee", make([]api.Alt, 4092)...))
	isTooLong(t, ruleFile("e", make([]api.Alt, 4093)...))
}

// P15.2: ErrArg stands ahead of ErrLimit, wherever the fault is.
func TestWrongAndTooLong(t *testing.T) {
	long := api.File{Terms: []api.Term{{Name: "n", Pattern: strings.Repeat("x", 9000)}}}
	isTooLong(t, long)
	isTooLong(t, joined(whole(), long))
	for _, wrong := range []api.File{{Imports: []string{"A"}}, {Start: " "}, {Terms: []api.Term{{Name: "n", Pattern: "/"}}}, precFile(4, "a"), precFile(1), ruleFile("e"), ruleFile("e", wayOf("rule"))} {
		isNone(t, joined(long, wrong))
		isNone(t, joined(wrong, long))
		isNone(t, joined(joined(whole(), long), wrong))
	}
	many := ruleFile("e", wayOf("a"))
	many.Rules = slices.Repeat(many.Rules, 100000)
	isTooLong(t, many)
	many.Rules[99999].Name = ""
	isNone(t, many)
}

// P15.2: all bytes that a pattern may have are written as they are.
func TestPrintOfAllBytes(t *testing.T) {
	for c := range 256 {
		s := string([]byte{byte(c)})
		f := api.File{Terms: []api.Term{{Name: "n", Pattern: s}}}
		if s == "\n" || s == "\r" || s == "/" || s == "\\" {
			isNone(t, f)
		} else {
			isPrinted(t, f, "term n = /"+s+"/;\n")
		}
		f.Terms[0].Pattern = "\\" + s
		if s == "\n" || s == "\r" {
			isNone(t, f)
		} else {
			isPrinted(t, f, "term n = /\\"+s+"/;\n")
		}
	}
	if b, e := gram.Print(api.File{}); len(b) != 0 || e != api.OK {
		t.Errorf("%q, %d", b, e)
	}
}
