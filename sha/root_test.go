package sha_test

import (
	"math"
	"math/big"
	"testing"

	"incunable/api"
	"incunable/sha"
)

// rootIs fails unless just the root is answered.
func rootIs(t *testing.T, power, n int, want uint32) {
	t.Helper()
	if got, e := sha.Root(power, n); got != want || e != api.OK {
		t.Errorf("Root(%d, %d) = %08x, error %d; want %08x", power, n, got, e, want)
	}
}

// rootRefuses fails unless the error is all that is answered.
func rootRefuses(t *testing.T, power, n int) {
	t.Helper()
	if got, e := sha.Root(power, n); got != 0 || e != api.ErrArg {
		t.Errorf("Root(%d, %d) = %08x, error %d; want error %d alone", power, n, got, e, api.ErrArg)
	}
}

// P4.1: the chapter's examples, and the edges of n.
func TestRootExamples(t *testing.T) {
	rootIs(t, 2, 2, 0x6a09e667)
	rootIs(t, 3, 2, 0x428a2f98)
	rootIs(t, 2, 4, 0)
	rootRefuses(t, 2, 0)
	rootIs(t, 2, 1, 0)
	rootIs(t, 3, 1, 0)
	rootIs(t, 2, 3, 0xbb67ae85)
	rootIs(t, 2, 999, 0x9b61d023)
	rootIs(t, 2, 1000, 0x9f6e4990)
	rootIs(t, 3, 999, 0xff25794b)
	rootIs(t, 3, 1000, 0)
}

// P4.1: every number, held against a root that is found by halving.
func TestRootOfEachNumber(t *testing.T) {
	for n := 1; n <= 1000; n++ {
		rootIs(t, 2, n, rootOf(2, n))
		rootIs(t, 3, n, rootOf(3, n))
	}
}

// P4.1: with what is ahead of the point put before it, the root is small enough, and one more is not.
func TestRootIsTheGreatest(t *testing.T) {
	for power := 2; power <= 3; power++ {
		for n := 1; n <= 1000; n++ {
			whole := 0
			for hasRoot(new(big.Int).Lsh(big.NewInt(int64(whole+1)), 32), power, n) {
				whole++
			}
			got, _ := sha.Root(power, n)
			x := big.NewInt(int64(whole)<<32 + int64(got))
			if !hasRoot(x, power, n) {
				t.Errorf("Root(%d, %d) = %08x is too great", power, n, got)
			}
			if hasRoot(x.Add(x, big.NewInt(1)), power, n) {
				t.Errorf("Root(%d, %d) = %08x is not the greatest", power, n, got)
			}
		}
	}
}

// P4.1: squares, and cubes, have nothing behind the point, and others have.
func TestRootOfSquaresAndCubes(t *testing.T) {
	var squares, cubes [1001]bool
	for i := 1; i*i <= 1000; i++ {
		squares[i*i] = true
	}
	for i := 1; i*i*i <= 1000; i++ {
		cubes[i*i*i] = true
	}
	for n := 1; n <= 1000; n++ {
		if got, e := sha.Root(2, n); (got == 0) != squares[n] || e != api.OK {
			t.Errorf("Root(2, %d) = %08x, error %d", n, got, e)
		}
		if got, e := sha.Root(3, n); (got == 0) != cubes[n] || e != api.OK {
			t.Errorf("Root(3, %d) = %08x, error %d", n, got, e)
		}
	}
}

// P4.1: powers that are not 2 or 3, whatever the number.
func TestRootOfOtherPowers(t *testing.T) {
	powers := []int{math.MinInt, -3, -2, -1, 0, 1, 4, 5, 6, 32, 64, 258, 259, 1<<32 + 2, 1<<32 + 3, math.MaxInt}
	for _, power := range powers {
		for _, n := range []int{math.MinInt, -1, 0, 1, 2, 4, 8, 1000, 1001, math.MaxInt} {
			rootRefuses(t, power, n)
		}
	}
}

// P4.1: numbers that are not from 1 to 1000.
func TestRootOfOtherNumbers(t *testing.T) {
	for power := 2; power <= 3; power++ {
		for _, n := range []int{math.MinInt, -1 << 32, -1000, -4, -2, -1, 0, 1001, 1002, 1024, 1331, 1 << 16, 1<<32 + 2, 1<<53 - 1, math.MaxInt} {
			rootRefuses(t, power, n)
		}
	}
}

// P4.1: the words of the rounds that FIPS 180-4, section 4.2.2, publishes are roots of the first primes.
func TestRootOfPrimesIsPublished(t *testing.T) {
	published := [64]uint32{
		0x428a2f98, 0x71374491, 0xb5c0fbcf, 0xe9b5dba5, 0x3956c25b, 0x59f111f1, 0x923f82a4, 0xab1c5ed5,
		0xd807aa98, 0x12835b01, 0x243185be, 0x550c7dc3, 0x72be5d74, 0x80deb1fe, 0x9bdc06a7, 0xc19bf174,
		0xe49b69c1, 0xefbe4786, 0x0fc19dc6, 0x240ca1cc, 0x2de92c6f, 0x4a7484aa, 0x5cb0a9dc, 0x76f988da,
		0x983e5152, 0xa831c66d, 0xb00327c8, 0xbf597fc7, 0xc6e00bf3, 0xd5a79147, 0x06ca6351, 0x14292967,
		0x27b70a85, 0x2e1b2138, 0x4d2c6dfc, 0x53380d13, 0x650a7354, 0x766a0abb, 0x81c2c92e, 0x92722c85,
		0xa2bfe8a1, 0xa81a664b, 0xc24b8b70, 0xc76c51a3, 0xd192e819, 0xd6990624, 0xf40e3585, 0x106aa070,
		0x19a4c116, 0x1e376c08, 0x2748774c, 0x34b0bcb5, 0x391c0cb3, 0x4ed8aa4a, 0x5b9cca4f, 0x682e6ff3,
		0x748f82ee, 0x78a5636f, 0x84c87814, 0x8cc70208, 0x90befffa, 0xa4506ceb, 0xbef9a3f7, 0xc67178f2,
	}
	primes := primesUpTo(311)
	if len(primes) != len(published) {
		t.Fatalf("%d primes", len(primes))
	}
	for i, p := range primes {
		rootIs(t, 3, p, published[i])
	}
	if keptRounds != published {
		t.Error("the tests' own words of the rounds are not the published ones")
	}
}

// P4.2: the eight words with which a digest begins, as they are published, and as roots of the first primes.
func TestBegin(t *testing.T) {
	if got := sha.Begin(); got != publishedBegin() {
		t.Errorf("Begin() = %08x, want %08x", got, publishedBegin())
	}
	for i, p := range []int{2, 3, 5, 7, 11, 13, 17, 19} {
		if got, want := sha.Begin()[i], rootOf(2, p); got != want {
			t.Errorf("Begin()[%d] = %08x, want %08x", i, got, want)
		}
	}
}
