package words_test

import (
	"slices"
	"strings"
	"testing"

	"incunable/api"
	"incunable/words"
)

// P14.1: the chapter's examples, and the kinds' numbers with them.
func TestCutOfTheExamples(t *testing.T) {
	isCut(t, "term n = /[0-9]+/;", wordOf(7, 0, 4), wordOf(1, 5, 6), wordOf(4, 7, 8), wordOf(3, 9, 17), wordOf(4, 17, 18))
	isCut(t, "import \"a/b.g\"; # x", wordOf(5, 0, 6), wordOf(2, 7, 14), wordOf(4, 14, 15))
	isCutTo(t, "rules : 9", 8)
	isCutTo(t, "/a\\/b/ /a", 7)
}

// P14.1: the numbers of the kinds.
func TestNumbersOfKinds(t *testing.T) {
	kinds := []int{words.Name, words.Path, words.Pattern, words.Sign, words.Import, words.Start, words.Term, words.Skip, words.Left, words.Right, words.None, words.Rule, words.Prec}
	for i, kind := range kinds {
		if kind != i+1 {
			t.Errorf("the kind %d has the number %d", i+1, kind)
		}
	}
	if words.LastKind != 13 {
		t.Errorf("the last kind is %d", words.LastKind)
	}
}

// P14.1: bytes of a language's file, whole.
func TestCutOfAFile(t *testing.T) {
	text := "import \"a.g\";\r\nstart e; # whole\nskip _1=/[ \\t]/;left plus minus;\nrule e:e plus e prec low|num|;"
	isCut(t, text, wordOf(5, 0, 6), wordOf(2, 7, 12), wordOf(4, 12, 13),
		wordOf(6, 15, 20), wordOf(1, 21, 22), wordOf(4, 22, 23),
		wordOf(8, 32, 36), wordOf(1, 37, 39), wordOf(4, 39, 40), wordOf(3, 40, 47), wordOf(4, 47, 48),
		wordOf(9, 48, 52), wordOf(1, 53, 57), wordOf(1, 58, 63), wordOf(4, 63, 64),
		wordOf(12, 65, 69), wordOf(1, 70, 71), wordOf(4, 71, 72), wordOf(1, 72, 73), wordOf(1, 74, 78), wordOf(1, 79, 80), wordOf(13, 81, 85), wordOf(1, 86, 89), wordOf(4, 89, 90), wordOf(1, 90, 93), wordOf(4, 93, 94), wordOf(4, 94, 95))
}

// P14.1: no bytes are no words.
func TestCutOfNoBytes(t *testing.T) {
	isCut(t, "")
	if l, at, e := words.Cut(nil); len(l) != 0 || at != 0 || e != api.OK {
		t.Fatalf("Cut(nil) = %v, %d, %d", l, at, e)
	}
}

// P14.1: 8192 bytes may be cut, of one word, of as many as there are bytes, of none, and of what is no word.
func TestCutOfAsManyBytesAsMayBe(t *testing.T) {
	for _, n := range []int{8191, 8192} {
		isCut(t, strings.Repeat(" ", n))
		isCut(t, "#"+strings.Repeat("\"", n-1))
		isCut(t, "/"+strings.Repeat("a", n-2)+"/", wordOf(3, 0, n))
		isCut(t, strings.Repeat(" ", n-4)+"term", wordOf(7, n-4, n))
		isCutTo(t, strings.Repeat("\n", n-1)+"!", n-1)
		isCutTo(t, "!"+strings.Repeat("\n", n-1), 0)
		isCutTo(t, "/"+strings.Repeat("a", n-1), 0)
		isCutTo(t, strings.Repeat("a", n), 0)
		isCutTo(t, "\""+strings.Repeat("a", n-1), 0)
		var all []api.Token
		for i := range n {
			all = append(all, wordOf(4, i, i+1))
		}
		isCut(t, strings.Repeat(";", n), all...)
		isCutTo(t, strings.Repeat(";", n-1)+"\\", n-1)
	}
}

// P14.1: more bytes are refused, ahead of any look at them.
func TestCutOfTooManyBytes(t *testing.T) {
	for _, n := range []int{8193, 8194, 100000} {
		for _, text := range []string{strings.Repeat(" ", n), strings.Repeat(";", n), strings.Repeat("!", n), "!" + strings.Repeat(" ", n-1), strings.Repeat(" ", n-1) + "!", strings.Repeat("a", n), "# " + strings.Repeat("x", n-2), "/" + strings.Repeat("x", n-2) + "/", strings.Repeat("\xff", n)} {
			isTooLong(t, text)
		}
	}
}

// P14.1: each word of the language is of its own kind, alone and among others.
func TestWordsOfTheLanguage(t *testing.T) {
	for i, s := range language() {
		isWord(t, s, 5+i)
		isCut(t, s+" "+s, wordOf(5+i, 0, len(s)), wordOf(5+i, len(s)+1, 2*len(s)+1))
	}
}

// P14.1: a word of the language is a name with a letter, a digit or _ behind it, or a letter or _ ahead of it, without its last letter or its first one, and in capitals.
func TestNamesLikeWordsOfTheLanguage(t *testing.T) {
	for _, s := range language() {
		for _, c := range strings.Split(nameBytes, "") {
			isWord(t, s+c, 1)
			if listed(c, digitBytes) {
				isNoWord(t, c+s)
			} else {
				isWord(t, c+s, 1)
			}
		}
		for _, like := range []string{strings.ToUpper(s), strings.ToUpper(s[:1]) + s[1:], s[:len(s)-1] + strings.ToUpper(s[len(s)-1:]), s[:len(s)-1], s[1:], s + s, s[:1]} {
			isWord(t, like, 1)
		}
		for _, other := range language() {
			isWord(t, s+other, 1)
		}
	}
}

// P14.1: names of one letter, of 24 and of all sorts; one of 25 letters is no word, not in part either.
func TestNames(t *testing.T) {
	for _, c := range strings.Split(nameBytes, "") {
		for _, n := range []int{1, 2, 23, 24} {
			s := strings.Repeat(c, n)
			switch {
			case listed(c, digitBytes):
				isNoWord(t, s)
				isWord(t, "x"+s[1:], 1)
			default:
				isWord(t, s, 1)
			}
		}
		for _, n := range []int{25, 26, 48, 1000} {
			isNoWord(t, strings.Repeat(c, n))
			isNoWord(t, "import"+strings.Repeat(c, n-6))
		}
		isWord(t, strings.Repeat("a", 23)+c, 1)
		isNoWord(t, strings.Repeat("a", 24)+c)
	}
}

// P14.1: a word does not begin with a digit.
func TestDigitsFirst(t *testing.T) {
	for _, s := range []string{"0", "9", "0a", "9_", "1term", "12", "0x1f", "9999999999999999999999999"} {
		isNoWord(t, s)
	}
	isCut(t, "a0 _9 term0", wordOf(1, 0, 2), wordOf(1, 3, 5), wordOf(1, 6, 11))
}

// P14.1: letters and digits beyond ASCII are of no name, whole or in part; blanks beyond it are none between words.
func TestLettersBeyondAscii(t *testing.T) {
	for _, s := range []string{"é", "ſ", "\u212a", "ß", "Ω", "я", "字", "٣", "５", "ａ", "＿", "𝐚", "\u00a0", "\u2028", "\u0085", "\ufeff", "\ufffd", "\xc3", "\xa9", "\xff", "\x80", "\xe5\xad"} {
		isNoWord(t, s)
		isCutTo(t, "a"+s, 1)
		isCutTo(t, "term"+s+" x", 4)
		isNoWord(t, s+"term")
	}
}

// P14.1: of each byte, alone: whether a word begins with it, or it may stand between words; also behind words, and ahead of them.
func TestEachByte(t *testing.T) {
	for c := range 256 {
		s := byteOf(c)
		switch {
		case listed(s, gapBytes):
			isCut(t, s)
			isCut(t, "a"+s+"b", wordOf(1, 0, 1), wordOf(1, 2, 3))
		case s == "#":
			isCut(t, s)
			isCut(t, "a"+s+"b", wordOf(1, 0, 1))
		case listed(s, signBytes):
			isWord(t, s, 4)
			isCut(t, "a"+s+"b", wordOf(1, 0, 1), wordOf(4, 1, 2), wordOf(1, 2, 3))
		case listed(s, nameBytes[:53]):
			isWord(t, s, 1)
			isCut(t, "a"+s+"b", wordOf(1, 0, 3))
		default:
			isNoWord(t, s)
			if listed(s, digitBytes) {
				isCut(t, "a"+s+"b", wordOf(1, 0, 3))
			} else {
				isCutTo(t, "a"+s+"b", 1)
			}
		}
	}
}

// P14.1: words that touch each other.
func TestWordsThatTouch(t *testing.T) {
	isCut(t, "import\"a\"\"b\"/c//d/e=;:||term/\\//:\"f\"x", wordOf(5, 0, 6), wordOf(2, 6, 9), wordOf(2, 9, 12), wordOf(3, 12, 15), wordOf(3, 15, 18), wordOf(1, 18, 19), wordOf(4, 19, 20), wordOf(4, 20, 21), wordOf(4, 21, 22), wordOf(4, 22, 23), wordOf(4, 23, 24), wordOf(7, 24, 28), wordOf(3, 28, 32), wordOf(4, 32, 33), wordOf(2, 33, 36), wordOf(1, 36, 37))
	kinds := map[string]int{"\"a/b\"": 2, "/a b/": 3, "//": 3, "=": 4, ";": 4, ":": 4, "|": 4, "term": 7, "x1": 1}
	for a, kindA := range kinds {
		for b, kindB := range kinds {
			if listed(a+b, nameBytes) {
				isCut(t, a+b, wordOf(1, 0, len(a+b)))
			} else {
				isCut(t, a+b, wordOf(kindA, 0, len(a)), wordOf(kindB, len(a), len(a+b)))
			}
		}
	}
	// A digit behind a word that is not lettered begins a word of its own, and there is none.
	for a := range kinds {
		if !listed(a, nameBytes) {
			isCutTo(t, a+"9", len(a))
		}
	}
}

// P14.1: the first place at which no word begins is told, however many words stand ahead of it, and others behind; no words are told beside it.
func TestPlaceOfWhatIsNoWord(t *testing.T) {
	for _, ahead := range []string{"", " ", "\n\n", "# !\n", "a", "a ", "term x = /!/;", "\"a\"", ";;;;;;", strings.Repeat("rule a : b | ;\n", 200), strings.Repeat(";", 8000)} {
		for _, none := range []string{"!", "9", "(", ")", "{", "\\", "'", ",", ".", "-", "+", "*", "?", "[", "]", "~", "\x00", "\x0b", "\x0c", "\x7f", "\"", "\"\"", "\"A\"", "/", "/a", "/\\"} {
			if ahead == "a" && none == "9" {
				continue // a name
			}
			for _, behind := range []string{"", "\n", "\n!", "\nterm a", "\n\"\"", "\n9"} {
				isCutTo(t, ahead+none+behind, len(ahead))
			}
		}
	}
	isCutTo(t, "a "+strings.Repeat("x", 25), 2)
	isCutTo(t, "abc/", 3)
}

// P14.1: all short texts of some bytes, of those with a meaning above all.
func TestCutOfAllShortTexts(t *testing.T) {
	const some = "a\"/\\#\n\r; 1"
	cuts, refusals := 0, 0
	l := []string{""}
	for range 5 {
		var longer []string
		for _, s := range l {
			for _, c := range strings.Split(some, "") {
				longer = append(longer, s+c)
			}
			if _, is := isSlowCut(t, s); is {
				cuts++
			} else {
				refusals++
			}
		}
		l = longer
	}
	m := mixer(1)
	for range 20000 {
		isSlowCut(t, m.one(l...)+m.one("", "/", "\"", "a", "\n"))
	}
	if cuts < 1000 || refusals < 1000 {
		t.Errorf("%d texts were cut, %d were not", cuts, refusals)
	}
}

// P14.1: files of all sorts, broken ones too, and bytes of all sorts.
func TestCutOfAllSorts(t *testing.T) {
	m := mixer(2)
	cuts, refusals, most := 0, 0, 0
	var kinds [14]int
	for range 20000 {
		l, is := isSlowCut(t, m.file())
		if is {
			cuts++
			most = max(most, len(l))
		} else {
			refusals++
		}
		for _, word := range l {
			kinds[word.Kind]++
		}
		isSlowCut(t, m.bytes(m.below(4)))
		isSlowCut(t, m.text(" \n\r#\"/\\;=ab_9.-", m.below(30)))
	}
	if cuts < 5000 || refusals < 1000 || most < 7 || slices.Min(kinds[1:]) < 300 {
		t.Errorf("%d texts were cut, %d were not; %d words at most; kinds %v", cuts, refusals, most, kinds)
	}
}
