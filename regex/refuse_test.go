package regex_test

import (
	"strings"
	"testing"

	"incunable/api"
	"incunable/regex"
)

// goesOn fails unless, behind what stands ahead, just the listed bytes are not refused at their place.
func goesOn(t *testing.T, ahead, list string) {
	t.Helper()
	for c := range 256 {
		p := ahead + string([]byte{byte(c)})
		x, at, e := regex.Parse(p)
		refused := e == api.ErrPattern && at == len(ahead)
		if refused == listed(list, byte(c)) {
			t.Fatalf("Parse(%q): at %d, error %d", p, at, e)
		}
		switch {
		case refused && len(x.L) > 0:
			t.Fatalf("Parse(%q): %v beside the error", p, x.L)
		case !refused && e == api.ErrPattern && at != len(p):
			t.Fatalf("Parse(%q): at %d", p, at)
		case e != api.ErrPattern && (e != api.OK || at != 0):
			t.Fatalf("Parse(%q): at %d, error %d", p, at, e)
		}
		// What stands behind has no say in where the first byte that can't be is.
		if refused {
			for _, behind := range []string{"a", ")", "]", "*", "\x00", `\`, ")]a|b"} {
				isRefused(t, p+behind, len(ahead))
			}
		}
	}
}

const (
	begins  = atomBytes + `.\[(|` // a way begins so, or another one begins behind it
	pieces  = begins + "*+?"
	inClass = classBytes + `\`
	behind  = signBytes + "ntrx"
)

// P9.2: each byte at the beginning of a pattern, and of a way.
func TestRefusedAtTheBeginning(t *testing.T) {
	for _, ahead := range []string{"", "|", "a|", "a||", "a*|", "ab|c|", "[a]|", "(a)|"} {
		goesOn(t, ahead, begins)
	}
	for _, ahead := range []string{"(", "((", "a(", "(|", "(a|", "((a)|", "a|(", "[a](", "a*("} {
		goesOn(t, ahead, begins+")")
	}
}

// P9.2: each byte within a way, behind pieces of all sorts.
func TestRefusedWithinAWay(t *testing.T) {
	for _, ahead := range []string{"a", "ab", ".", "[a]", "[a-z]", "()", "(a)", "a*", "a+", "a?", "a**", "a|b", "|a", `\n`, `\x00`, `\*`, "(a|b)c", "[^a]", "[a-b]*", "(a)(b)"} {
		goesOn(t, ahead, pieces)
		goesOn(t, "("+ahead, pieces+")")
		goesOn(t, "a|((b|"+ahead, pieces+")")
		goesOn(t, "("+ahead+")", pieces)
	}
}

// P9.2: each byte behind a \, wherever it stands.
func TestRefusedBehindASlash(t *testing.T) {
	for _, ahead := range []string{"", "a", "a|", "(", "(a|b*", "[", "[^", "[a", "[a-z", `[\x00-`, "[a-bc", `\\`, `\n`} {
		goesOn(t, ahead+`\`, behind)
	}
}

// P9.2: each byte behind \x, and behind its first digit: digits of 0 to 9, a to f.
func TestRefusedBehindX(t *testing.T) {
	for _, ahead := range []string{"", "a", "a|", "(", "[", "[^", "[a", "[a-z", `[\x00-`} {
		goesOn(t, ahead+`\x`, hexBytes)
		for i := range hexBytes {
			goesOn(t, ahead+`\x`+hexBytes[i:i+1], hexBytes)
		}
	}
	isRefused(t, `\xA0`, 2)
	isRefused(t, `\x0F`, 3)
	isRefused(t, `\X00`, 1)
	isRefused(t, `\x0`, 3)
	isRefused(t, `\x`, 2)
	isRefused(t, `\x0g`, 3)
	isRefused(t, `\xg0`, 2)
	isRefused(t, `\xx0`, 2)
}

// P9.2: each byte at each place of a class: behind [, behind ^, behind a byte, behind a -, behind a range.
func TestRefusedWithinAClass(t *testing.T) {
	for _, ahead := range []string{"", "a", "(", "a|", "[a]"} {
		goesOn(t, ahead+"[", inClass+"^")
		goesOn(t, ahead+"[^", inClass)
		for _, is := range []string{"[", "[^", "[a-b", "[a-a", `[\x00-\xff`} {
			goesOn(t, ahead+is+"a", inClass+"]-")
			goesOn(t, ahead+is+" ", inClass+"]-")
			goesOn(t, ahead+is+`\n`, inClass+"]-")
			goesOn(t, ahead+is+`\x5e`, inClass+"]-")
			goesOn(t, ahead+is+`\-`, inClass+"]-")
			goesOn(t, ahead+is+"a-b", inClass+"]")
			goesOn(t, ahead+is+`\x00-\x00`, inClass+"]")
			goesOn(t, ahead+is+`\x00-`, inClass)
		}
	}
	isRefused(t, "[^]", 2)
	isRefused(t, "[]]", 1)
	isRefused(t, "[^^]", 2)
	isRefused(t, "[a^]", 2)
	isRefused(t, "[-a]", 1)
	isRefused(t, "[a-]", 3)
	isRefused(t, "[a--]", 3)
	isRefused(t, "[a-b-c]", 4)
	isRefused(t, "[a[b]]", 2)
	isRefused(t, "[a/b]", 2)
	isRefused(t, "[a]]", 3)
}

// P9.2: the second byte of a range: those that are below the first one are refused at their place, or at that of their \.
func TestRefusedWhereARangeFalls(t *testing.T) {
	for from := range 256 {
		low := string([]byte{byte(from)})
		if !listed(classBytes, byte(from)) {
			low = speltByte(byte(from), "")
		}
		var list []byte
		for c := range 256 {
			if b := byte(c); listed(classBytes, b) && c >= from || b == '\\' {
				list = append(list, b)
			}
		}
		goesOn(t, "["+low+"-", string(list))
		goesOn(t, "a|([^x-z"+low+"-", string(list))
	}
	for _, p := range []string{"[b-a]", "[b-a", "[b-a-", "[b-a]*", "[b-aq]", "[b-a\x00", `[b-\x61]`, `[b-\x61`, `[b-\x61\`, `[b-\n]`, `[b-\n`, `[b-\n]|(`, `[b-\-]`, `[b-\^]`, `[b-\\]`, `[b-\x00`, `[b-\x00-`} {
		isRefused(t, p, 3)
	}
	isRefused(t, `[\x62-\x61]`, 6)
	isRefused(t, `[\x62-a]`, 6)
	isRefused(t, `[\]-\[]`, 4)
	isRefused(t, `[^b-a]`, 4)
	isRefused(t, `[a-bc-b]`, 6)
	isRefused(t, `[a-b\xff-\xfe`, 9)
	isRefused(t, `x(y|[b-a])`, 7)
}

// P9.2: an escape that is none is refused where it can't be one, also as the second byte of a range that would fall.
func TestRefusedEscapesInRanges(t *testing.T) {
	isRefused(t, `[b-\q]`, 4)
	isRefused(t, `[b-\`, 4)
	isRefused(t, `[b-\xg0]`, 5)
	isRefused(t, `[b-\x`, 5)
	isRefused(t, `[b-\xfg]`, 6)
	isRefused(t, `[b-\xf`, 6)
	isRefused(t, `[b-\x0g]`, 6)
	isRefused(t, `[b-\x0`, 6)
}

// P9.2: what ends too early is refused at its end, wherever it is cut.
func TestRefusedAtTheEnd(t *testing.T) {
	for _, p := range []string{"(", "((", "(a", "(a|", "(a|b", "(a*", "(()", "((a)", "a(", "a|(", "(a)(", `\`, `a\`, `\x`, `\x0`, `(\`, "[", "[^", "[a", "[^a", "[a-", "[a-z", "[a-zb", `[\`, `[\n`, `[\x`, `[\x6`, `[\x61`, `[a-\`, `[a-\x`, `[a-\x7`, `[a-\x7a`, "(a[", "([a]", "a|b|(c|d", "[|", "[)", "[(", "([)]"} {
		isRefused(t, p, len(p))
	}
	m := mixer(8)
	for range 1500 {
		p := m.pattern(3)
		for n := range p {
			x, at, e := regex.Parse(p[:n])
			if e == api.ErrPattern && (at != n || len(x.L) > 0) || e != api.ErrPattern && at != 0 {
				t.Fatalf("%q, cut to %q: at %d, error %d", p, p[:n], at, e)
			}
		}
	}
}

// P9.2: brackets that were not opened, or are closed once too often.
func TestRefusedBrackets(t *testing.T) {
	isRefused(t, ")", 0)
	isRefused(t, "a)", 1)
	isRefused(t, "())", 2)
	isRefused(t, "(a))b", 3)
	isRefused(t, "|)", 1)
	isRefused(t, "a|b)*", 3)
	isRefused(t, "(a]", 2)
	isRefused(t, "]", 0)
	isRefused(t, "a]", 1)
	isRefused(t, "(*)", 1)
	isRefused(t, "(a|+)", 3)
	isRefused(t, "(?", 1)
	isRefused(t, "a(|*", 3)
	for n := range 20 {
		isRefused(t, brackets(n, "a)"), 2*n+1)
		isRefused(t, brackets(n, "(a"), 2*n+2)
	}
}

// P9.2: the place is that of a byte that no pattern has there: those ahead of it begin one, and go on as one with it left out.
func TestRefusedPlaces(t *testing.T) {
	m := mixer(9)
	tails := []string{"", "a", "]", "a]", "0", "00", "ff", "f", "ff]", "f]", "n", "n]", `\xff]`, `xff]`}
	begins := func(p string) bool {
		for _, tail := range tails {
			for n := range 8 {
				if _, _, e := regex.Parse(p + tail + strings.Repeat(")", n)); e == api.OK {
					return true
				}
			}
		}
		return false
	}
	for range 6000 {
		p := m.text("ab()[]|*\\x^-09f/.?", 1+m.below(12))
		_, at, e := regex.Parse(p)
		if e == api.OK {
			continue
		}
		// Where a range falls within an escape, the place is that of its \, by the chapter's words.
		if !begins(p[:at]) && !strings.Contains(p[:at], `-\x`) {
			t.Fatalf("%q is refused at %d, but %q begins no pattern", p, at, p[:at])
		}
		if at < len(p) && begins(p[:at+1]) && p[at] != '\\' {
			t.Fatalf("%q is refused at %d, but %q begins a pattern", p, at, p[:at+1])
		}
	}
}
