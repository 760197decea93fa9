package sha_test

import (
	"bytes"
	"crypto/sha256"
	"testing"

	"incunable/sha"
)

// P4.4: the chapter's examples, and other digests that are published.
func TestPublishedDigests(t *testing.T) {
	for _, c := range []struct {
		what string
		b    []byte
		want string
	}{
		{"no bytes", nil, "e3b0c44298fc1c149afbf4c8996fb92427ae41e4649b934ca495991b7852b855"},
		{"no bytes, not nil", []byte{}, "e3b0c44298fc1c149afbf4c8996fb92427ae41e4649b934ca495991b7852b855"},
		{"abc", []byte("abc"), "ba7816bf8f01cfea414140de5dae2223b00361a396177a9cb410ff61f20015ad"},
		{"a", []byte("a"), "ca978112ca1bbdcafac231b39a23dc4da786eff8147c4e72b9807785afee48bb"},
		{"bd", []byte{0xBD}, "68325720aabd7c82f30f554b313d0570c95accbb7dc4b5aae11204c08ffe732b"},
		{"c98c8e55", []byte{0xC9, 0x8C, 0x8E, 0x55}, "7abc22c0ae5af26ce93dbb94433a0e0b2e119d014f8e7f65bd56c61ccccd9504"},
		{"448 bits", []byte("abcdbcdecdefdefgefghfghighijhijkijkljklmklmnlmnomnopnopq"), "248d6a61d20638b8e5c026930c3e6039a33ce45964ff2167f6ecedd419db06c1"},
		{"896 bits", []byte("abcdefghbcdefghicdefghijdefghijkefghijklfghijklmghijklmnhijklmnoijklmnopjklmnopqklmnopqrlmnopqrsmnopqrstnopqrstu"), "cf5b16a778af8380036ce59e7b0492370b249b11e8f07a51afac45037afee9d1"},
		{"55 noughts", make([]byte, 55), "02779466cdec163811d078815c633f21901413081449002f24aa3e80f0b88ef7"},
		{"56 noughts", make([]byte, 56), "d4817aa5497628e7c77e6b606107042bbba3130888c5f47a375e6179be789fbb"},
		{"57 noughts", make([]byte, 57), "65a16cb7861335d5ace3c60718b5052e44660726da4cd13bb745381b235a1785"},
		{"64 noughts", make([]byte, 64), "f5a5fd42d16a20302798ef6ed309979b43003d2320d9f0e8ea9831a92759fb4b"},
		{"1000 noughts", make([]byte, 1000), "541b3e9daa09b20bf85fa273e5cbd3e80185aa4ec298e765db87742b70138a53"},
		{"1005 times 55", bytes.Repeat([]byte{0x55}, 1005), "f4d62ddec0f3dd90ea1380fa16a5ff8dc4c54b21740650f24afc4120903552b0"},
		{"a million a", bytes.Repeat([]byte("a"), 1000000), "cdc76e5c9914fb9281a1c7e284d73e67f1809a48a497200e046d39ccc7112cd0"},
		{"a million noughts", make([]byte, 1000000), "d29751f2649b32ff572b5e0a9f541ea660a50f94ff0beedfb0b692b924cc8025"},
	} {
		d := sha.Of(c.b)
		if got := sha.Hex(d); got != c.want {
			t.Errorf("%s: %s, want %s", c.what, got, c.want)
		}
		parsesTo(t, c.want, d)
	}
}

// P4.4: lists of all short lengths, and of those around the ends of blocks further on.
func TestDigests(t *testing.T) {
	m := mixer(51)
	lengths := []int{1000, 1023, 1024, 1025, 4095, 4096, 4097, 65535, 65536, 65537}
	for n := range 330 {
		lengths = append(lengths, n)
	}
	for _, n := range lengths {
		for _, b := range [][]byte{m.bytes(n), make([]byte, n), bytes.Repeat([]byte{0xFF}, n)} {
			got := sha.Of(b)
			if want := sha256.Sum256(b); got != want {
				t.Errorf("%d bytes: %x, elsewhere %x", n, got, want)
			}
			if n < 5000 && got != digestOf(b) {
				t.Errorf("%d bytes: %x, want %x", n, got, digestOf(b))
			}
		}
	}
}

// P4.4: each byte alone.
func TestDigestsOfOneByte(t *testing.T) {
	for x := range 256 {
		b := []byte{byte(x)}
		if got, want := sha.Of(b), digestOf(b); got != want {
			t.Errorf("%02x: %x, want %x", x, got, want)
		}
	}
}

// P4.4: a list of some megabytes.
func TestDigestOfALongList(t *testing.T) {
	m := mixer(52)
	b := m.bytes(5<<20 + 119)
	if got, want := sha.Of(b), sha256.Sum256(b); got != want {
		t.Errorf("%x, elsewhere %x", got, want)
	}
}

// inBlocks goes on with blocks, one by one.
func inBlocks(t *testing.T, h [8]uint32, blocks []byte) [8]uint32 {
	t.Helper()
	for ; len(blocks) > 0; blocks = blocks[64:] {
		h = mustBlock(t, h, blocks[:64])
	}
	return h
}

// P4.7: what is digested in one go, and block by block, is the same, by the package's own calls alone.
func TestOneGoAndBlockByBlock(t *testing.T) {
	m := mixer(53)
	for n := range 260 {
		b := m.bytes(n)
		if one, all := sha.Of(b), bytesOf(inBlocks(t, sha.Begin(), sha.Pad(b))); one != all {
			t.Errorf("%d bytes in one go: %x, block by block: %x", n, one, all)
		}
	}
}

// P4.7: cut at any block: what was made ahead of the cut is all that is known behind it, other digests between them change nothing.
func TestCutAtAnyBlock(t *testing.T) {
	m := mixer(54)
	for _, n := range []int{0, 55, 56, 64, 200, 640, 1000} {
		b := m.bytes(n)
		want, blocks := sha.Of(b), sha.Pad(b)
		for cut := 0; cut <= len(blocks); cut += 64 {
			h := inBlocks(t, sha.Begin(), blocks[:cut])
			sha.Of(m.bytes(m.below(200)))
			mustBlock(t, m.words(), m.bytes(64))
			if got := bytesOf(inBlocks(t, h, blocks[cut:])); got != want {
				t.Errorf("%d bytes, cut at %d: %x, in one go: %x", n, cut, got, want)
			}
		}
	}
}

// P4.7: whole blocks of the list itself come first, and only what is left is padded; the count is that of all.
func TestWholeBlocksAhead(t *testing.T) {
	m := mixer(55)
	for _, n := range []int{64, 65, 119, 120, 128, 300, 1000} {
		b := m.bytes(n)
		for cut := 0; cut <= n; cut += 64 {
			h := inBlocks(t, sha.Begin(), b[:cut])
			if got := bytesOf(inBlocks(t, h, padded(b)[cut:])); got != sha.Of(b) {
				t.Errorf("%d bytes, %d of them ahead: %x, in one go: %x", n, cut, got, sha.Of(b))
			}
		}
	}
}

// P4.4: a list of whole blocks, and the same list padded by hand, are two lists.
func TestPaddedListsAreOthers(t *testing.T) {
	m := mixer(56)
	seen := make(map[[32]byte]int)
	b := m.bytes(130)
	for n := range b {
		for _, l := range [][]byte{b[:n], sha.Pad(b[:n])} {
			d := sha.Of(l)
			if other, is := seen[d]; is {
				t.Errorf("lists of %d and of %d bytes have one digest", other, len(l))
			}
			seen[d] = len(l)
		}
	}
}
