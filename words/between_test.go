package words_test

import (
	"strings"
	"testing"
)

// P14.1: blanks, tabs and ends of lines stand between words, ahead of the first one and behind the last one, and where there are no words, any number of them.
func TestGaps(t *testing.T) {
	for _, c := range strings.Split(gapBytes, "") {
		for _, n := range []int{1, 2, 3, 100} {
			gap := strings.Repeat(c, n)
			isCut(t, gap)
			isCut(t, gap+"a", wordOf(1, n, n+1))
			isCut(t, "a"+gap, wordOf(1, 0, 1))
			isCut(t, "a"+gap+"b", wordOf(1, 0, 1), wordOf(1, n+1, n+2))
			isCut(t, gap+"rule"+gap+"//"+gap, wordOf(12, n, n+4), wordOf(3, 2*n+4, 2*n+6))
			isCutTo(t, gap+"!"+gap, n)
		}
	}
	isCut(t, " \t\r\n\n\r\t a\r\n", wordOf(1, 8, 9))
}

// P14.1: all other bytes, the other ends of lines and blanks with them, are no gap.
func TestNoGaps(t *testing.T) {
	for _, s := range []string{"\x00", "\v", "\f", "\x1f", "\x7f", "\b", "\x1b", "\x85", "\xa0", "\u00a0", "\u2028", "\u3000"} {
		isNoWord(t, s)
		isCutTo(t, "a"+s+"b", 1)
		isCutTo(t, "a "+s+" b", 2)
	}
}

// P14.1: remarks, ended by 10 or by the end, whatever stands in them; a 13 does not end one.
func TestRemarks(t *testing.T) {
	for _, s := range []string{"", " x", "#", "##", "\"", "\"a", "/", "/a", "!", "9", "term", ";;", "\r", "\ra", "\\", "\x00\xff", "é", strings.Repeat("x", 1000)} {
		n := len(s) + 1
		isCut(t, "#"+s)
		isCut(t, "#"+s+"\n")
		isCut(t, "#"+s+"\na", wordOf(1, n+1, n+2))
		isCut(t, "a#"+s, wordOf(1, 0, 1))
		isCut(t, "a #"+s+"\n\n#"+s, wordOf(1, 0, 1))
		isCut(t, "a#"+s+"\nb#"+s+"\n", wordOf(1, 0, 1), wordOf(1, n+2, n+3))
		isCut(t, "#"+s+"\n#"+s+"\n;", wordOf(4, 2*n+2, 2*n+3))
		isCutTo(t, "#"+s+"\n!", n+1)
	}
}

// P14.1: a # within a path makes it none, one within a pattern stands for itself; behind both it begins a remark.
func TestRemarksAndQuotedWords(t *testing.T) {
	isCutTo(t, "a \"b#c\"", 2)
	isCutTo(t, "a \"b#\"\n\"", 2)
	isCut(t, "/#/", wordOf(3, 0, 3))
	isCut(t, "/a#b/ c", wordOf(3, 0, 5), wordOf(1, 6, 7))
	isCutTo(t, "/a#\n/", 0)
	isCut(t, "/a/#/\n\"b\"#\"", wordOf(3, 0, 3), wordOf(2, 6, 9))
	isCut(t, "# /\n/#/ # /", wordOf(3, 4, 7))
}

// P14.1: there need be nothing between words, but where letters would go on with those ahead.
func TestGapsBetweenLetters(t *testing.T) {
	isCut(t, "term", wordOf(7, 0, 4))
	for i, c := range strings.Split(gapBytes, "") {
		isCut(t, "te"+c+"rm", wordOf(1, 0, 2), wordOf(1, 3, 5))
		isCut(t, "rule"+c+"term", wordOf(12, 0, 4), wordOf(7, 5, 9))
		isCutTo(t, "a"+c+strings.Repeat("9", i+1), 2)
	}
	isCut(t, "te#rm", wordOf(1, 0, 2))
	isCut(t, "te#\nrm", wordOf(1, 0, 2), wordOf(1, 4, 6))
	isCut(t, "ruleterm", wordOf(1, 0, 8))
}
