package gram_test

import (
	"strings"
	"testing"

	"incunable/api"
	"incunable/words"
)

// P15.1: a second start is refused where it begins, whatever stands between, and whatever would stand behind it.
func TestSecondStart(t *testing.T) {
	for _, between := range []string{"", " ", "\n# start\n", `import "a";`, `term n = /start/;`, `left e;`, `rule start_ : e;`, strings.Repeat("rule e:;", 1000)} {
		for _, second := range []string{"start e;", "start f;", "start", "start;", "start e", "start start", "start = x"} {
			isRefusedAt(t, "start e;"+between+second, len("start e;"+between))
			isRefusedAt(t, "left e;start e;"+between+second+" ", len("left e;start e;"+between))
		}
	}
	isRefusedAt(t, "start e start f;", 8)
	isRefusedAt(t, "start start;", 6)
	isRefusedAt(t, "start e; start e; start e;", 9)
}

// piecesOf are the words of a line.
func piecesOf(t *testing.T, text string) (l []string) {
	t.Helper()
	tokens, _, e := words.Cut([]byte(text))
	if e != api.OK {
		t.Fatalf("%q: error %d", text, e)
	}
	for _, w := range tokens {
		l = append(l, text[w.From:w.To])
	}
	return l
}

// P15.1: each line that is cut off behind each of its words ends too early; how many bytes there are is told, those behind the last word with them.
func TestLinesCutOff(t *testing.T) {
	for _, line := range tableLines() {
		l := piecesOf(t, line.text)
		for n := 1; n < len(l); n++ {
			text := strings.Join(l[:n], " ")
			for _, behind := range []string{"", " ", "\n\n", " # ;", "\t#\n \r"} {
				isRefusedAt(t, text+behind, len(text+behind))
				isRefusedAt(t, "skip a = /b/; "+text+behind, len("skip a = /b/; "+text+behind))
			}
		}
	}
}

// P15.1: each line with each of its words changed into one of each other kind, or into another sign; what comes is what the table says. Where a line has its words at places of their own the changed one is refused.
func TestWordsChanged(t *testing.T) {
	d := machine(t)
	files, refusals := 0, 0
	for i, line := range tableLines() {
		l := piecesOf(t, line.text)
		for at, word := range l {
			for _, other := range samples() {
				changed := append(append(append([]string{}, l[:at]...), other), l[at+1:]...)
				text := strings.Join(changed, " ")
				if isSlowlyParsed(t, d, text) {
					files++
				} else {
					refusals++
				}
				if i < 4 && at > 0 && letterOf(t, other) != letterOf(t, word) {
					isRefusedAt(t, text, len(strings.Join(append([]string{""}, l[:at]...), " ")))
				}
			}
		}
	}
	if files < 50 || refusals < 500 {
		t.Errorf("%d files, %d refusals", files, refusals)
	}
}

// letterOf is the letter of a text that is one word.
func letterOf(t *testing.T, word string) byte {
	t.Helper()
	l, _, e := words.Cut([]byte(word))
	if e != api.OK || len(l) != 1 {
		t.Fatalf("%q is no word", word)
	}
	return letter(l[0].Kind, word)
}

// P15.1: words in the place of others, by hand.
func TestWordsOutOfPlace(t *testing.T) {
	for text, place := range map[string]int{
		// No line begins so.
		"e;": 0, "Import \"a\";": 0, "\"a\";": 0, "/a/;": 0, ";": 0, "=": 0, ":": 0, "|": 0, "prec a;": 0, "imports \"a\";": 0, "start e;;": 8, "start e; e;": 9,
		// A path, a name, a pattern is wanted.
		"import a;": 7, "import /a/;": 7, "import;": 6, "import import \"a\";": 7, "import \"a\" \"b\";": 11, "import \"a\" b;": 11,
		"start \"e\";": 6, "start /e/;": 6, "start;": 5, "start rule;": 6, "start e f;": 8, "start e, f;": -1,
		"term \"n\" = /x/;": 5, "term /n/ = /x/;": 5, "term = /x/;": 5, "term term = /x/;": 5, "term prec = /x/;": 5,
		"term n = \"x\";": 9, "term n = x;": 9, "term n = ;": 9, "term n /x/;": 7, "term n m = /x/;": 7, "term n = /x/ /y/;": 13, "term n = /x/ y;": 13, "term n;": 6,
		"skip \"n\" = /x/;": 5, "skip skip = /x/;": 5, "skip n = \"x\";": 9, "skip n = x;": 9, "skip n /x/;": 7, "skip n = /x//y/;": 12,
		// Names are wanted.
		"left \"a\";": 5, "left /a/;": 5, "left left;": 5, "left a left b;": 7, "left a right b;": 7, "left a = b;": 7, "left a : b;": 7, "left a | b;": 7, "left a \"b\";": 7, "left a /b/;": 7,
		"right rule;": 6, "right a b none;": 10, "none none;": 5, "none a, b;": -1,
		"rule \"e\" : a;": 5, "rule /e/ : a;": 5, "rule : a;": 5, "rule rule : a;": 5, "rule e a;": 7, "rule e f : a;": 7, "rule e;": 6,
		"rule e : \"a\";": 9, "rule e : /a/;": 9, "rule e : a rule f : b;": 11, "rule e : a | import;": 13, "rule e : term;": 9, "rule e : a : b;": 11, "rule e : a = b;": 11, "rule e :: a;": 8,
	} {
		if place < 0 {
			isRefused(t, text, strings.Index(text, ","), api.ErrWord)
			continue
		}
		isRefusedAt(t, text, place)
		isRefusedAt(t, "right x;\n"+text, 9+place)
		isRefusedAt(t, text[:place]+"# remark\n"+text[place:], 9+place)
		isRefusedAt(t, text+"start e;", place)
	}
}

// P15.1: a word of the language stands nowhere for a name.
func TestWordsOfTheLanguageAreNoNames(t *testing.T) {
	for kind := words.Import; kind <= words.LastKind; kind++ {
		w := words.Spelled(kind)
		for _, text := range []string{"start ?;", "term ? = /x/;", "skip ? = /x/;", "left ?;", "right ?;", "none ?;", "left a ?;", "none a b ? c;", "rule ? : a;", "rule e : a prec ?;", "rule e : prec ?;", "rule e : a prec b ?;"} {
			isRefusedAt(t, strings.Replace(text, "?", w, 1), strings.Index(text, "?"))
		}
		if kind == words.Prec {
			continue // it may stand behind a way's names
		}
		for _, text := range []string{"rule e : ?;", "rule e : a ?;", "rule e : a | ?;", "rule e : a | b ? c;"} {
			isRefusedAt(t, strings.Replace(text, "?", w, 1), strings.Index(text, "?"))
		}
	}
}

// P15.1: each sign in the place of each other one.
func TestSignsChanged(t *testing.T) {
	for text, places := range map[string]map[string]int{
		`import "a" ?`:      {";": -1, "=": 11, ":": 11, "|": 11},
		`start e ?`:         {";": -1, "=": 8, ":": 8, "|": 8},
		`term n ? /x/;`:     {"=": -1, ";": 7, ":": 7, "|": 7},
		`term n = /x/ ?`:    {";": -1, "=": 13, ":": 13, "|": 13},
		`skip n ? /x/;`:     {"=": -1, ";": 7, ":": 7, "|": 7},
		`skip n = /x/ ?`:    {";": -1, "=": 13, ":": 13, "|": 13},
		`left a ?`:          {";": -1, "=": 7, ":": 7, "|": 7},
		`right a b ?`:       {";": -1, "=": 10, ":": 10, "|": 10},
		`none a ?`:          {";": -1, "=": 7, ":": 7, "|": 7},
		`rule e ? a;`:       {":": -1, "=": 7, ";": 7, "|": 7},
		`rule e : a ? b;`:   {"|": -1, "=": 11, ":": 11, ";": 13},
		`rule e : ? b;`:     {"|": -1, "=": 9, ":": 9, ";": 11},
		`rule e : a ? ;`:    {"|": -1, "=": 11, ":": 11, ";": 13},
		`rule e : a ?`:      {";": -1, "=": 11, ":": 11, "|": 12},
		`rule e : prec a ?`: {";": -1, "=": 16, ":": 16, "|": 17},
	} {
		for sign, place := range places {
			changed := strings.Replace(text, "?", sign, 1)
			if place < 0 {
				if f, is := slowFile(t, changed); is {
					isParsed(t, changed, f)
					continue
				}
				t.Fatalf("%q is no file", changed)
			}
			isRefusedAt(t, changed, place)
		}
	}
}

// slowFile is what the table says of bytes, and whether they are a file.
func slowFile(t *testing.T, text string) (api.File, bool) {
	t.Helper()
	f, _, is := slowParse(machine(t), text)
	return f, is
}

// P15.1: all rows of up to ten words that are the beginning of a file, and each one word longer: a file, or refused just where the table says.
func TestAllShortRowsOfWords(t *testing.T) {
	d := machine(t)
	files, refusals := 0, 0
	type row struct {
		text  string
		state int
	}
	rows := []row{{}}
	for range 11 {
		var longer []row
		for _, r := range rows {
			for _, word := range samples() {
				text := r.text + " " + word
				if isSlowlyParsed(t, d, text) {
					files++
				} else {
					refusals++
				}
				if to := step(d, r.state, letterOf(t, word)); to >= 0 {
					longer = append(longer, row{text, to})
				}
			}
		}
		rows = longer
	}
	t.Logf("%d files, %d refusals", files, refusals)
	if files < 1000 || refusals < 10000 {
		t.Errorf("%d files, %d refusals", files, refusals)
	}
}

// P15.1: files of all sorts, with some of their words taken away, changed, or others put in.
func TestHurtFiles(t *testing.T) {
	d := machine(t)
	m := mixer(3)
	files, refusals := 0, 0
	for range 10000 {
		text := m.hurt(strings.Join(m.mixed(slowLines(m.file())), ""))
		if len(text) > 8192 {
			continue
		}
		if isSlowlyParsed(t, d, text) {
			files++
		} else {
			refusals++
		}
	}
	if files < 500 || refusals < 5000 {
		t.Errorf("%d files, %d refusals", files, refusals)
	}
}

// P15.1: rows of words by chance.
func TestRowsOfWordsByChance(t *testing.T) {
	d := machine(t)
	m := mixer(4)
	for range 20000 {
		var l []string
		for range m.below(12) {
			l = append(l, m.one(samples()...))
		}
		isSlowlyParsed(t, d, m.spread(strings.Join(l, " ")))
	}
}
