package gram_test

import (
	"bytes"
	"math"
	"reflect"
	"slices"
	"strings"
	"testing"

	"incunable/api"
	"incunable/gram"
)

// texts are bytes that are files, and some that are none.
func texts() []string {
	m := mixer(15)
	l := []string{"", "left ;", "rule e : a", "; 9", "start e;", "rule e:" + strings.Repeat("|", 8184) + ";", strings.Repeat(" ", 8193)}
	for _, line := range tableLines() {
		l = append(l, line.text)
	}
	for range 500 {
		text := m.laid(m.file())
		l = append(l, text, m.hurt(text))
	}
	return l
}

// roomy are bytes with spare room behind them, in which others stand that could go on with them.
func roomy(text string) []byte {
	return append([]byte(text), " a;\nstart e; rule e : a;"...)[:len(text)]
}

// spoil writes over bytes, their spare room too.
func spoil(b []byte) {
	b = b[:cap(b)]
	for i := range b {
		b[i] = '!'
	}
}

// P15.3: bytes are only read, their spare room too, and what stands there has no say.
func TestBytesAreOnlyRead(t *testing.T) {
	for _, text := range texts() {
		b := roomy(text)
		was := bytes.Clone(b[:cap(b)])
		f, at, e := gram.Parse(b)
		if !bytes.Equal(b[:cap(b)], was) {
			t.Fatalf("%.60q was changed", text)
		}
		g, atG, eG := gram.Parse(slices.Clip([]byte(text)))
		if !alike(f, g) || at != atG || e != eG {
			t.Fatalf("%.60q: what stands behind it had a say", text)
		}
	}
}

// P15.3: bytes are not kept: what was answered stays as it is when they become others, and other bytes in the same place are parsed anew.
func TestBytesAreNotKept(t *testing.T) {
	for _, text := range texts() {
		b := roomy(text)
		f, _, _ := gram.Parse(b)
		was := deep(f)
		spoil(b)
		if !alike(f, was) {
			t.Fatalf("%s became %s", told(was), told(f))
		}
		if len(b) > 0 && len(b) <= 8192 {
			if f, at, e := gram.Parse(b); !alike(f, api.File{}) || at != 0 || e != api.ErrWord {
				t.Fatalf("%.60q: it was kept", text)
			}
		}
	}
}

// deep is a copy of a file, its texts' bytes too.
func deep(f api.File) api.File {
	f = plain(f)
	for _, l := range textLists(&f) {
		for i := range *l {
			(*l)[i] = strings.Clone((*l)[i])
		}
	}
	f.Start = strings.Clone(f.Start)
	for i := range f.Terms {
		f.Terms[i].Name, f.Terms[i].Pattern = strings.Clone(f.Terms[i].Name), strings.Clone(f.Terms[i].Pattern)
	}
	for i := range f.Rules {
		f.Rules[i].Name = strings.Clone(f.Rules[i].Name)
		for j := range f.Rules[i].Alts {
			f.Rules[i].Alts[j].Prec = strings.Clone(f.Rules[i].Alts[j].Prec)
		}
	}
	return f
}

// textLists are all lists of texts that a file has.
func textLists(f *api.File) []*[]string {
	l := []*[]string{&f.Imports}
	for i := range f.Precs {
		l = append(l, &f.Precs[i].Names)
	}
	for i := range f.Rules {
		for j := range f.Rules[i].Alts {
			l = append(l, &f.Rules[i].Alts[j].Syms)
		}
	}
	return l
}

// overwrite writes over a list, its spare room too.
func overwrite[T any](l []T, x T) {
	l = l[:cap(l)]
	for i := range l {
		l[i] = x
	}
}

// overwriteAll writes over all lists of a file, from its leaves on.
func overwriteAll(f api.File) {
	for _, l := range textLists(&f) {
		overwrite(*l, "spoilt")
	}
	for i := range f.Rules {
		overwrite(f.Rules[i].Alts, boundWay("spoilt", "spoilt"))
	}
	overwrite(f.Terms, api.Term{Name: "spoilt", Skip: true})
	overwrite(f.Precs, api.Prec{Kind: 9})
	overwrite(f.Rules, api.Rule{Name: "spoilt"})
}

// P15.3: two answers share no memory, nor their spare room, and none is kept.
func TestTwoFilesShareNothing(t *testing.T) {
	for _, text := range texts() {
		a, _, _ := gram.Parse([]byte(text))
		was := deep(a)
		b, _, _ := gram.Parse([]byte(text))
		overwriteAll(a)
		if !alike(b, was) {
			t.Fatalf("%s became %s", told(was), told(b))
		}
		if c, _, _ := gram.Parse([]byte(text)); !alike(c, was) {
			t.Fatalf("%s, want %s", told(c), told(was))
		}
	}
}

// P15.3: no list of an answer shares memory with another one of it: each is written over, its spare room too, and the others stay as they were.
func TestListsOfAFileShareNothing(t *testing.T) {
	for _, text := range append(texts()[:200], "left a b c d e; none f g h i j; rule e : a b c d e | f g h | | i prec j; rule f : a | b | c | d | e;") {
		f, _, _ := gram.Parse([]byte(text))
		lists := textLists(&f)
		want := make([][]string, len(lists))
		for i, l := range lists {
			want[i] = slices.Clone(*l)
		}
		for i, l := range lists {
			overwrite(*l, "spoilt")
			want[i] = slices.Repeat([]string{"spoilt"}, len(*l))
			for j, other := range lists {
				if !slices.Equal(*other, want[j]) {
					t.Fatalf("%q: a list became %q, as another one was written over", text, *other)
				}
			}
		}
	}
}

// P15.3: nor do the ways of rules, and the lists of lines.
func TestWaysOfRulesShareNothing(t *testing.T) {
	for _, text := range append(texts()[:200], "rule e : a | b | c; rule f : d | e | f; rule g : h | i | j | k | l; term n = /x/; left a;") {
		f, _, _ := gram.Parse([]byte(text))
		was := deep(f)
		for i := range f.Rules {
			_ = append(f.Rules[i].Alts, wayOf("more"), wayOf("more"), wayOf("more"))
			for j := range f.Rules[i].Alts {
				_ = append(f.Rules[i].Alts[j].Syms, "more", "more", "more")
			}
		}
		_, _, _ = append(f.Terms, api.Term{Name: "more"}), append(f.Precs, api.Prec{Kind: 9}), append(f.Rules, api.Rule{Name: "more"})
		if !alike(f, was) {
			t.Fatalf("%s became %s", told(was), told(f))
		}
		for i := range f.Rules {
			overwrite(f.Rules[i].Alts, wayOf("spoilt"))
			was.Rules[i].Alts = slices.Repeat([]api.Alt{wayOf("spoilt")}, len(was.Rules[i].Alts))
			if !alike(f, was) {
				t.Fatalf("%s became %s", told(was), told(f))
			}
		}
	}
}

// roomyFile is a copy of a file, whose lists have spare room in which something stands.
func roomyFile(f api.File) api.File {
	f = deep(f)
	for _, l := range textLists(&f) {
		*l = append(*l, "spare", "!", "")[:len(*l)]
	}
	f.Terms = append(f.Terms, api.Term{Name: "spare"}, api.Term{Name: "!"})[:len(f.Terms)]
	f.Precs = append(f.Precs, api.Prec{Kind: 9})[:len(f.Precs)]
	for i, x := range f.Rules {
		f.Rules[i].Alts = append(x.Alts, wayOf("spare"), wayOf("!"))[:len(x.Alts)]
	}
	f.Rules = append(f.Rules, api.Rule{Name: "spare"})[:len(f.Rules)]
	return f
}

// withRoom is a file with all that stands in its lists' spare room: a copy that is no part of it any more.
func withRoom(f api.File) api.File {
	for i := range f.Precs {
		f.Precs[i].Names = f.Precs[i].Names[:cap(f.Precs[i].Names)]
	}
	f.Imports, f.Terms, f.Precs, f.Rules = f.Imports[:cap(f.Imports)], f.Terms[:cap(f.Terms)], f.Precs[:cap(f.Precs)], f.Rules[:cap(f.Rules)]
	f = deep(f)
	for i := range f.Rules {
		f.Rules[i].Alts = f.Rules[i].Alts[:cap(f.Rules[i].Alts)]
	}
	return deep(f)
}

// P15.3: files that are handed in are only read, their lists' spare room too, and what stands there has no say.
func TestFilesAreOnlyRead(t *testing.T) {
	m := mixer(16)
	l := changes()
	for range 2000 {
		f := m.file()
		if m.below(3) == 0 {
			f = whole()
			changeOne(l[m.below(len(l))], &f)
		}
		a, b := roomyFile(f), roomyFile(f)
		was := withRoom(roomyFile(f))
		text, e := gram.Print(a)
		ofCheck := gram.Check(a)
		if !gram.Same(a, b) || !gram.Same(f, a) {
			t.Fatalf("%s is not the same as another one with spare room", told(f))
		}
		if !alike(withRoom(a), was) || !alike(withRoom(b), was) {
			t.Fatalf("%s was changed", told(f))
		}
		want, wantE := gram.Print(f)
		if !bytes.Equal(text, want) || e != wantE || ofCheck != gram.Check(f) {
			t.Fatalf("%s: what stands in spare room had a say", told(f))
		}
	}
}

// P15.3: what was printed hangs on the file no more, nor on other answers, their spare room with them.
func TestPrintedBytesAreNewMemory(t *testing.T) {
	m := mixer(17)
	for range 2000 {
		f := roomyFile(m.file())
		g := deep(f)
		a, e := gram.Print(f)
		want := bytes.Clone(a)
		b, _ := gram.Print(f)
		overwriteAll(f)
		spoil(b)
		if !bytes.Equal(a, want) {
			t.Fatalf("%q became %q", want, a)
		}
		if c, eC := gram.Print(g); !bytes.Equal(c, want) || eC != e {
			t.Fatalf("%q, want %q", c, want)
		}
	}
}

// R2: calls hang on what they are handed alone: the same ones, in another order, answer the same.
func TestCallsHangOnNothingElse(t *testing.T) {
	list := texts()
	var files []api.File
	for _, text := range list {
		f, _, _ := gram.Parse([]byte(text))
		files = append(files, f)
	}
	for i := len(list) - 1; i >= 0; i-- {
		gram.Print(files[len(list)-1-i])
		gram.Check(whole())
		if f, _, _ := gram.Parse([]byte(list[i])); !alike(f, files[i]) || !gram.Same(f, files[i]) {
			t.Fatalf("%.60q: %s, want %s", list[i], told(f), told(files[i]))
		}
	}
}

// isOrdered fails unless what Parse answers is of one of the forms that it may have.
func isOrdered(t *testing.T, text string) {
	t.Helper()
	f, at, e := gram.Parse([]byte(text))
	none := reflect.DeepEqual(f, api.File{})
	switch {
	case e == api.OK && at == 0 && len(text) <= 8192 && gram.Check(f) == api.OK:
	case e == api.ErrLimit && at == 0 && len(text) > 8192 && none:
	case e == api.ErrWord && 0 <= at && at < len(text) && len(text) <= 8192 && none:
	case e == api.ErrGram && 0 <= at && at <= len(text) && len(text) <= 8192 && none:
	default:
		t.Fatalf("Parse(%.60q) = %s, %d, %d", text, told(f), at, e)
	}
}

// R1: Parse never panics, whatever it is handed.
func TestParseNeverPanics(t *testing.T) {
	m := mixer(18)
	for range 20000 {
		isOrdered(t, m.bytes(m.below(40)))
		isOrdered(t, m.text("\"/\\#\n =;:|ab9", m.below(40)))
		isOrdered(t, m.one("left ", "rule e : ", "term n = ", "import ", "start e; ", "skip ")+m.text("\"/#\n =;:|ab", m.below(12)))
	}
	for _, word := range append(samples(), "\n", "#", "!", "\xff", "\"", "/", "\\") {
		for _, n := range []int{1, 2, 100, 2000, 4095, 4096, 4097, 8192, 8193, 100000} {
			isOrdered(t, strings.Repeat(word+" ", n))
			isOrdered(t, strings.Repeat(word, n))
			isOrdered(t, "rule e : "+strings.Repeat(word+" ", n))
		}
	}
}

// R1: nor do the calls of files, whatever stands in them.
func TestFilesNeverPanic(t *testing.T) {
	m := mixer(19)
	for range 10000 {
		var f api.File
		for range m.below(3) {
			f.Imports = append(f.Imports, m.bytes(m.below(3)))
			f.Terms = append(f.Terms, api.Term{Name: m.bytes(m.below(2)), Pattern: m.bytes(m.below(3))})
			f.Precs = append(f.Precs, api.Prec{Kind: int(int32(m.next())) << m.below(33), Names: m.names(m.below(3))})
			f.Rules = append(f.Rules, api.Rule{Name: m.bytes(m.below(3)), Alts: make([]api.Alt, m.below(3))})
		}
		e := gram.Check(f)
		b, ofPrint := gram.Print(f)
		if e != api.OK && e != api.ErrArg || ofPrint != e || e != api.OK && len(b) > 0 {
			t.Fatalf("Check %d, Print %q, %d of %s", e, b, ofPrint, told(f))
		}
		isSame(t, f, deep(f), true)
	}
	long := api.File{Imports: make([]string, 1000000), Start: strings.Repeat("x", 1<<20), Precs: []api.Prec{{Kind: math.MinInt, Names: make([]string, 100000)}}}
	isNone(t, long)
	isSame(t, long, deep(long), true)
}
