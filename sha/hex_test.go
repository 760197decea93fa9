package sha_test

import (
	"encoding/hex"
	"strings"
	"testing"

	"incunable/api"
	"incunable/sha"
)

// P4.5: what is told of noughts, of ones, and of each digit at its place.
func TestHexExamples(t *testing.T) {
	var rising, full [32]byte
	for i := range rising {
		rising[i] = byte(i*8 + 3)
		full[i] = 0xFF
	}
	for _, c := range []struct {
		d [32]byte
		s string
	}{
		{[32]byte{}, strings.Repeat("0", 64)},
		{full, strings.Repeat("f", 64)},
		{[32]byte{0x01, 0x23, 0x45, 0x67, 0x89, 0xab, 0xcd, 0xef, 31: 0x1f}, "0123456789abcdef" + strings.Repeat("0", 46) + "1f"},
		{[32]byte{0xf0, 31: 0x0a}, "f0" + strings.Repeat("0", 61) + "a"},
		{rising, "030b131b232b333b434b535b636b737b838b939ba3abb3bbc3cbd3dbe3ebf3fb"},
	} {
		if got := sha.Hex(c.d); got != c.s {
			t.Errorf("Hex(%x) = %q, want %q", c.d, got, c.s)
		}
		parsesTo(t, c.s, c.d)
	}
}

// P4.5: each byte at each place, both ways.
func TestHexAndParseEachByte(t *testing.T) {
	for at := range 32 {
		for x := range 256 {
			m := mixer(at*256 + x)
			d := m.digest()
			d[at] = byte(x)
			want := hex.EncodeToString(d[:])
			if got := sha.Hex(d); got != want {
				t.Fatalf("Hex(%x) = %q, want %q", d, got, want)
			}
			parsesTo(t, want, d)
		}
	}
}

// P4.7: Parse and Hex take each other back.
func TestHexAndParseTakeEachOtherBack(t *testing.T) {
	m := mixer(61)
	const digits = "0123456789abcdef"
	for range 500 {
		d := m.digest()
		parsesTo(t, sha.Hex(d), d)
		var s strings.Builder
		for range 64 {
			s.WriteByte(digits[m.below(16)])
		}
		d, e := sha.Parse(s.String())
		if got := sha.Hex(d); got != s.String() || e != api.OK {
			t.Errorf("Parse(%q), error %d, and Hex: %q", s.String(), e, got)
		}
	}
}

// P4.5: of all bytes, at each place, just the sixteen digits may stand there.
func TestParseEachByteAtEachPlace(t *testing.T) {
	for at := range 64 {
		for x := range 256 {
			b := []byte(digits64("5"))
			b[at] = byte(x)
			s := string(b)
			if strings.IndexByte("0123456789abcdef", byte(x)) < 0 {
				parseRefuses(t, s)
				continue
			}
			d, e := sha.Parse(s)
			if got := hex.EncodeToString(d[:]); got != s || e != api.OK {
				t.Errorf("Parse(%q): %s, error %d", s, got, e)
			}
		}
	}
}

// P4.5: capital letters are no digits, be they one, or all.
func TestParseOfCapitalLetters(t *testing.T) {
	parseRefuses(t, digits64("ABCDEF"))
	parseRefuses(t, digits64("0123456789ABCDEF"))
	parseRefuses(t, digits64("F"))
	published := "ba7816bf8f01cfea414140de5dae2223b00361a396177a9cb410ff61f20015ad"
	parseRefuses(t, strings.ToUpper(published))
	for i, c := range published {
		if c >= 'a' {
			parseRefuses(t, published[:i]+strings.ToUpper(published[i:i+1])+published[i+1:])
		}
	}
}

// P4.5: any number of digits but 64.
func TestParseOfOtherLengths(t *testing.T) {
	for n := range 200 {
		if n != 64 {
			parseRefuses(t, strings.Repeat("7", n))
			parseRefuses(t, strings.Repeat("0", n))
		}
	}
	parseRefuses(t, strings.Repeat("a", 65536))
}

// P4.5: what stands around digits is nothing that is passed over.
func TestParseOfDigitsAndOthers(t *testing.T) {
	full := digits64("0123456789abcdef")
	for _, s := range []string{
		" " + full, full + " ", full + "\n", "0x" + full, full + "\x00", "\x00" + full,
		" " + full[:63], full[:63] + " ", full[:63] + "\n", "0x" + full[:62], "+" + full[:63], "-" + full[:63],
		full[:31] + " " + full[32:], full[:32] + "_" + full[33:], full[:32] + ":" + full[33:],
		full[:62] + "é", full[:61] + "１", "ſ" + full[:62], strings.Repeat("é", 32), strings.Repeat("\xFF", 64), strings.Repeat("\x00", 64),
		strings.Repeat("g", 64), strings.Repeat("`", 64), strings.Repeat("/", 64), strings.Repeat(":", 64), strings.Repeat("@", 64),
	} {
		parseRefuses(t, s)
	}
}
