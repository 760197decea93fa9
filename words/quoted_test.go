package words_test

import (
	"strings"
	"testing"
)

// P14.1: paths of 1 to 32 bytes; of none and of more they are no words.
func TestPathsByLength(t *testing.T) {
	for n := range 100 {
		for _, c := range []string{"a", "/", ".", "7"} {
			s := "\"" + strings.Repeat(c, n) + "\""
			if 1 <= n && n <= 32 {
				isWord(t, s, 2)
			} else {
				isNoWord(t, s)
			}
		}
	}
	isNoWord(t, "\""+strings.Repeat("a", 8000)+"\"")
}

// P14.1: each byte that may stand in a path, and each that may not: as its only byte, its first, its last and one within.
func TestBytesOfPaths(t *testing.T) {
	for c := range 256 {
		s := byteOf(c)
		for _, around := range [][2]string{{"", ""}, {"a", ""}, {"", "a"}, {"a.g/", "-_9"}, {strings.Repeat("x", 31), ""}, {"", strings.Repeat("x", 31)}} {
			path := "\"" + around[0] + s + around[1] + "\""
			switch {
			case listed(s, pathBytes):
				isWord(t, path, 2)
			case s == "\"":
				isSlowCut(t, path) // the path ends there, and something else begins
			default:
				isNoWord(t, path)
			}
		}
	}
}

// P14.1: bytes beyond ASCII, and capitals, are of no path, text or not.
func TestPathsBeyondAscii(t *testing.T) {
	for _, s := range []string{"é", "ａ", "字", "ſ", "\u212a", "\ufffd", "\xff", "\xc3", "a\xa9", "A", "aB", "a b", "a\\b", "a:b", "*", "a\x00"} {
		isNoWord(t, "\""+s+"\"")
	}
}

// P14.1: a path that is not ended ahead of the next 10, of the next 13, or at the end, is none.
func TestPathsThatAreNotEnded(t *testing.T) {
	for _, s := range []string{"", "a", "a/b.g", strings.Repeat("a", 32), strings.Repeat("a", 33)} {
		isNoWord(t, "\""+s)
		for _, end := range []string{"\n", "\r", "\r\n", " ", "\t", "#", ";", "/ /"} {
			isNoWord(t, "\""+s+end)
			isNoWord(t, "\""+s+end+"\"")
			isNoWord(t, "\""+s+end+"b\"")
			isNoWord(t, "\""+s+end+"\"a\"")
		}
	}
}

// P14.1: what looks like other words, or like a remark, stands in a path or makes it none.
func TestPathsLikeOtherWords(t *testing.T) {
	isCut(t, "\"term\"", wordOf(2, 0, 6))
	isCut(t, "\"9\"", wordOf(2, 0, 3))
	isCut(t, "\"//\"", wordOf(2, 0, 4))
	isCut(t, "\"..\"\"-\"", wordOf(2, 0, 4), wordOf(2, 4, 7))
	isNoWord(t, "\"a#b\"")
	isNoWord(t, "\"#\"")
	isNoWord(t, "\"a;\"")
}

// P14.1: patterns, also those without bytes, and with the bytes of other words and of remarks.
func TestPatterns(t *testing.T) {
	for _, s := range []string{"", "a", "[0-9]+", "a b", "#", "a # b", "\"", "\"\"", "term", ";", "\t", "\x00", "\xff\xfe", "é字", "*|(", " ", "'\"'"} {
		isWord(t, "/"+s+"/", 3)
	}
	isCut(t, "//", wordOf(3, 0, 2))
	isCut(t, "///a/", wordOf(3, 0, 2), wordOf(3, 2, 5))
	isCutTo(t, "///", 2)
	isCut(t, "/a/b/c/", wordOf(3, 0, 3), wordOf(1, 3, 4), wordOf(3, 4, 7))
	isCut(t, "/#/#/", wordOf(3, 0, 3))
}

// P14.1: each byte within a pattern, as it is and with a \ ahead of it, at its beginning, within and at its end.
func TestBytesOfPatterns(t *testing.T) {
	for c := range 256 {
		s := byteOf(c)
		end := s == "\n" || s == "\r"
		for _, around := range [][2]string{{"", ""}, {"a", ""}, {"", "a"}, {"[a", "]+"}, {"\\\\", ""}, {"\\/", "\\/"}} {
			switch pattern := "/" + around[0] + s + around[1] + "/"; {
			case end:
				isNoWord(t, pattern)
			case s != "/" && s != "\\":
				isWord(t, pattern, 3)
			}
			switch pattern := "/" + around[0] + "\\" + s + around[1] + "/"; {
			case end:
				isNoWord(t, pattern)
			default:
				isWord(t, pattern, 3)
			}
		}
	}
}

// P14.1: a \ takes the byte behind it along, whatever it is, and no more than that: of as many as there are each second one has none of its own.
func TestBackslashesOfPatterns(t *testing.T) {
	for n := range 40 {
		s := "/" + strings.Repeat("\\", n) + "/"
		if n%2 == 0 {
			isWord(t, s, 3)
			isCut(t, s+"x;", wordOf(3, 0, n+2), wordOf(1, n+2, n+3), wordOf(4, n+3, n+4))
			isCutTo(t, s+"x/", n+3)
		} else {
			isNoWord(t, s)
			isWord(t, s+"/", 3)
			isWord(t, s+"x/", 3)
		}
	}
}

// P14.1: a pattern that is not ended ahead of the next 10, of the next 13, or at the end, is none; a \ does not take one of these along.
func TestPatternsThatAreNotEnded(t *testing.T) {
	for _, s := range []string{"", "a", "[0-9]+", "\\/", "\\\\", "\\a", "a b", "\\", "a\\", "\\\\\\", "\\/\\"} {
		isNoWord(t, "/"+s)
		for _, end := range []string{"\n", "\r", "\r\n"} {
			isNoWord(t, "/"+s+end)
			isNoWord(t, "/"+s+end+"/")
			isNoWord(t, "/"+s+end+"b/")
			isNoWord(t, "/"+s+end+"/a/")
		}
	}
}
