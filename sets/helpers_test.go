package sets_test

import (
	"math/big"
	"slices"
	"testing"

	"incunable/api"
	"incunable/sets"
)

// mixer makes numbers that look like chance and are always the same.
type mixer uint64

func (m *mixer) next() uint32 {
	*m = *m*6364136223846793005 + 1442695040888963407
	return uint32(*m >> 32)
}

func (m *mixer) number() uint64 {
	return uint64(m.next())<<32 | uint64(m.next())
}

func (m *mixer) bytes(n int) []byte {
	b := make([]byte, n)
	for i := range b {
		b[i] = byte(m.next())
	}
	return b
}

// thinned is a set of which some 1 of 2^times bytes is in.
func (m *mixer) thinned(times int) api.Set {
	s := full()
	for range times {
		for i := range s {
			s[i] &= m.number()
		}
	}
	return s
}

// members tells of each byte whether it is in.
type members [256]bool

// told are the members of a set, by the chapter's words: the four numbers are one of 256 bits.
func told(s api.Set) (is members) {
	all := new(big.Int)
	for i, n := range s {
		all.Or(all, new(big.Int).Lsh(new(big.Int).SetUint64(n), uint(64*i)))
	}
	for c := range is {
		is[c] = all.Bit(c) == 1
	}
	return is
}

// set is the members as four numbers: each byte adds 2 to the power of what it leaves.
func (is members) set() (s api.Set) {
	for c := range is {
		if is[c] {
			power := uint64(1)
			for range c % 64 {
				power *= 2
			}
			s[c/64] += power
		}
	}
	return s
}

// list are the members, rising.
func (is members) list() (l []byte) {
	for c := range is {
		if is[c] {
			l = append(l, byte(c))
		}
	}
	return l
}

// among are the members that are in a list.
func among(l []byte) (is members) {
	for c := range is {
		is[c] = slices.Contains(l, byte(c))
	}
	return is
}

// those are the bytes of which a function tells it.
func those(tells func(c int) bool) (is members) {
	for c := range is {
		is[c] = tells(c)
	}
	return is
}

// hasJust fails unless the set has just these bytes: by its numbers, and byte by byte by Has.
func hasJust(t *testing.T, s api.Set, want members) {
	t.Helper()
	if s != want.set() {
		t.Fatalf("%x, want %x", s, want.set())
	}
	for c := range want {
		if sets.Has(s, byte(c)) != want[c] {
			t.Fatalf("Has of %x and %d: %v, want %v", s, c, !want[c], want[c])
		}
	}
}

func full() api.Set {
	return api.Set{^uint64(0), ^uint64(0), ^uint64(0), ^uint64(0)}
}

// everyByte is 0 to 255.
func everyByte() (l []byte) {
	for c := range 256 {
		l = append(l, byte(c))
	}
	return l
}

// ends are both ends of what each of the four numbers tells of.
func ends() []byte {
	return []byte{0, 63, 64, 127, 128, 191, 192, 255}
}

// someSets are sets of no bytes, of all, of one byte, of all but one, in each of the four numbers alone, and others that look like chance, full ones and thin ones.
func someSets() []api.Set {
	l := []api.Set{
		{},
		full(),
		{0xAAAAAAAAAAAAAAAA, 0xAAAAAAAAAAAAAAAA, 0xAAAAAAAAAAAAAAAA, 0xAAAAAAAAAAAAAAAA},
		{0x5555555555555555, 0x5555555555555555, 0x5555555555555555, 0x5555555555555555},
		among(ends()).set(),
		{1, 2, 3, 4},
	}
	for i := range 4 {
		one, other := api.Set{}, full()
		one[i], other[i] = ^uint64(0), 0
		l = append(l, one, other)
		one[i], other[i] = 0x8000000000000001, 0x7FFFFFFFFFFFFFFE
		l = append(l, one, other)
	}
	m := mixer(1)
	for _, c := range append(ends(), 1, 100, 200) {
		is := those(func(b int) bool { return b == int(c) })
		l = append(l, is.set(), those(func(b int) bool { return b != int(c) }).set())
	}
	for times := range 7 {
		for range 6 {
			s := m.thinned(times)
			others := s
			for i := range others {
				others[i] = ^others[i]
			}
			l = append(l, s, others)
		}
	}
	return l
}
