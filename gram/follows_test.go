package gram_test

import (
	"strings"
	"testing"

	"incunable/api"
	"incunable/gram"
	"incunable/words"
)

// P15.4: what was printed is parsed as it was.
func TestWhatWasPrintedIsParsed(t *testing.T) {
	m := mixer(9)
	many := 0
	l := []api.File{{}, whole()}
	for _, line := range tableLines() {
		l = append(l, line.file)
	}
	for range 10000 {
		l = append(l, m.file())
	}
	for _, f := range l {
		b, e := gram.Print(f)
		if e != api.OK {
			continue
		}
		g, at, e := gram.Parse(b)
		if e != api.OK || at != 0 || !alike(f, g) || !gram.Same(f, g) {
			t.Fatalf("%q is parsed as %s, %d, %d", b, told(g), at, e)
		}
		many++
	}
	if many < 9000 {
		t.Errorf("%d files", many)
	}
}

// isPrintedSo fails unless a file that was parsed may be, and is printed so that it is parsed as the same; it tells whether it was printed, as it may be longer than it was.
func isPrintedSo(t *testing.T, f api.File) bool {
	t.Helper()
	if e := gram.Check(f); e != api.OK {
		t.Fatalf("Check(%s) = %d", told(f), e)
	}
	want := strings.Join(slowLines(f), "")
	if len(want) > 8192 {
		isTooLong(t, f)
		return false
	}
	isPrinted(t, f, want)
	isParsed(t, want, f)
	return true
}

// P15.4: what is parsed may be, and is printed so that it is parsed as the same.
func TestWhatIsParsedMayBePrinted(t *testing.T) {
	m := mixer(10)
	printed := 0
	for range 10000 {
		text := m.laid(m.file())
		if m.below(3) == 0 {
			text = m.hurt(text)
		}
		if f, _, e := gram.Parse([]byte(text)); e == api.OK && isPrintedSo(t, f) {
			printed++
		}
	}
	if printed < 6000 {
		t.Errorf("%d files were printed", printed)
	}
}

// P15.2, P15.4: bytes that stand close may be a file that is longer as it is written.
func TestWhatIsParsedMayBeTooLongToPrint(t *testing.T) {
	for _, text := range []string{"rule e:" + strings.Repeat("|", 8184) + ";", strings.Repeat("rule e:;", 1024), strings.Repeat("none a;", 1170), "left " + strings.Repeat("a ", 4093) + ";", strings.Repeat("term n=//;", 819)} {
		f, at, e := gram.Parse([]byte(text))
		if e != api.OK || at != 0 {
			t.Fatalf("%.60q: error %d at %d", text, e, at)
		}
		if isPrintedSo(t, f) != (text[0] == 'l') {
			t.Errorf("%.60q is printed", text)
		}
	}
}

// P15.5: two files' bytes with a byte 10 between are a file that has the lists of both; with two starts the second one is refused.
func TestTwoFilesInOne(t *testing.T) {
	m := mixer(11)
	both := 0
	for range 10000 {
		f, g := m.file(), m.file()
		a := m.laid(f) + m.one("", "#", "# start e;", "\n")
		b := m.laid(g)
		text := a + "\n" + b
		switch {
		case len(text) > 8192:
			isRefused(t, text, 0, api.ErrLimit)
		case f.Start != "" && g.Start != "":
			isRefusedAt(t, text, len(a)+1+startOf(t, b))
			both++
		default:
			isParsed(t, text, joined(f, g))
		}
	}
	if both < 1000 {
		t.Errorf("%d had two starts", both)
	}
}

// startOf is where the word start stands in a file's bytes.
func startOf(t *testing.T, text string) int {
	t.Helper()
	l, _, e := words.Cut([]byte(text))
	if e != api.OK {
		t.Fatal("no words", e)
	}
	for _, w := range l {
		if w.Kind == words.Start {
			return w.From
		}
	}
	t.Fatal("no start")
	return 0
}

// P15.5: any number of files, one behind the other; a file that is none is refused where it is one alone, if those ahead have no start.
func TestManyFilesInOne(t *testing.T) {
	m := mixer(12)
	refusals := 0
	for range 3000 {
		var text string
		var whole api.File
		for range m.below(5) {
			f := m.file()
			f.Start = ""
			text += m.laid(f) + "\n"
			whole = joined(whole, f)
		}
		last := m.hurt(m.laid(m.file()))
		if len(text+last) > 8192 {
			continue
		}
		switch f, at, e := gram.Parse([]byte(last)); e {
		case api.OK:
			isParsed(t, text+last, joined(whole, f))
		default:
			isRefused(t, text+last, len(text)+at, e)
			refusals++
		}
	}
	if refusals < 1000 {
		t.Errorf("%d refusals", refusals)
	}
}

// isBeginning fails unless bytes are a file, or are refused at their end.
func isBeginning(t *testing.T, text string) {
	t.Helper()
	f, at, e := gram.Parse([]byte(text))
	switch {
	case e == api.OK && at == 0:
	case e == api.ErrGram && at == len(text) && alike(f, api.File{}):
	default:
		t.Fatalf("Parse(%q) = %s, %d, %d: it is the beginning of a file", text, told(f), at, e)
	}
}

// P15.6: the bytes ahead of a place at which ErrGram is told are the beginning of a file; with the word from there on they are none, whatever stands behind it.
func TestBytesAheadOfARefusal(t *testing.T) {
	m := mixer(13)
	refusals := 0
	for range 5000 {
		text := m.hurt(m.laid(m.file()))
		_, at, e := gram.Parse([]byte(text))
		if e != api.ErrGram {
			continue
		}
		refusals++
		isBeginning(t, text[:at])
		if at == len(text) {
			continue
		}
		l, _, _ := words.Cut([]byte(text[at:]))
		if l[0].From != 0 {
			t.Fatalf("%q is refused at %d, where no word begins", text, at)
		}
		for _, behind := range append(samples(), "", "; start e;") {
			isRefusedAt(t, text[:at+l[0].To]+" "+behind, at)
		}
	}
	if refusals < 3000 {
		t.Errorf("%d refusals", refusals)
	}
}

// P15.6: a file that is cut off ahead of any of its words, or behind it, is a file, or is refused at its end.
func TestFilesCutOff(t *testing.T) {
	m := mixer(14)
	for range 2000 {
		text := m.laid(m.file())
		l, _, e := words.Cut([]byte(text))
		if e != api.OK {
			continue
		}
		for _, w := range l {
			isBeginning(t, text[:w.From])
			isBeginning(t, text[:w.To])
		}
	}
}
