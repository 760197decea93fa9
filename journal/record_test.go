package journal_test

import (
	"bytes"
	"encoding/hex"
	"math"
	"slices"
	"strings"
	"testing"

	"incunable/api"
	"incunable/journal"
)

// P6.1: bytes that were worked out elsewhere.
func TestRecordsByTheByte(t *testing.T) {
	for _, c := range []struct {
		n    int
		text string
		want string
	}{
		{1, "a", "000000010000000000000001bae2a91b61334d18c3"},
		{2, "", "00000000000000000000000243a7db9543a7db95"},
		{3, "b", "0000000100000000000000039683a7f5620b7e2768"},
		{0x02030405060708, "\x00\xff", "000000020002030405060708dbb961c300ffef29aabc"},
		{api.MaxNumber, "ab", "00000002001fffffffffffff6d4eae346162be05b4df"},
		{1, strings.Repeat("\x00", 258), "00000102000000000000000141b5e6cd" + strings.Repeat("00", 258) + "d0cfd9d5"},
		{1, strings.Repeat("x", 262144), "0004000000000000000000017b850bbc" + strings.Repeat("78", 262144) + "4766737d"},
	} {
		b, e := journal.Record(c.n, []byte(c.text))
		if hex.EncodeToString(b) != c.want || e != api.OK {
			t.Errorf("Record(%d, %.20q): %.60x, error %d, want %.120s", c.n, c.text, b, e, c.want)
		}
		if got := hex.EncodeToString(record(uint64(c.n), c.text)); got != c.want {
			t.Errorf("the tests' own record %d of %.20q: %.120s, want %.120s", c.n, c.text, got, c.want)
		}
	}
}

// P6.1: numbers and lengths at each end and beyond; the number is looked at first.
func TestRecordAtTheEdges(t *testing.T) {
	some := long(2*api.MaxPack + 1)
	for _, n := range []int{math.MinInt, -1 << 32, -1, 0, 1, 2, 255, 256, 65535, 65536, 1<<32 - 1, 1 << 32, 1<<32 + 1, 1 << 40, 1<<48 + 7, api.MaxNumber - 1, api.MaxNumber, api.MaxNumber + 1, 1<<53 + 1, 1 << 60, math.MaxInt} {
		for _, length := range []int{0, 1, 2, 11, 12, 16, 255, 256, 257, 65535, 65536, 65537, api.MaxPack - 1, api.MaxPack, api.MaxPack + 1, 2*api.MaxPack + 1} {
			b, e := journal.Record(n, []byte(some[:length]))
			switch {
			case n < 1 || n > 1<<53-1:
				if len(b) != 0 || e != api.ErrArg {
					t.Errorf("Record(%d, %d bytes): %d bytes, error %d", n, length, len(b), e)
				}
			case length > 262144:
				if len(b) != 0 || e != api.ErrLimit {
					t.Errorf("Record(%d, %d bytes): %d bytes, error %d", n, length, len(b), e)
				}
			default:
				if !bytes.Equal(b, record(uint64(n), some[:length])) || e != api.OK {
					t.Errorf("Record(%d, %d bytes): %.20x, error %d", n, length, b, e)
				}
			}
		}
	}
	b, e := journal.Record(7, nil)
	if !bytes.Equal(b, record(7, "")) || e != api.OK {
		t.Errorf("Record(7, nil): %x, error %d", b, e)
	}
}

// recordsAre fails unless bytes have just these whole records, which end there.
func recordsAre(t *testing.T, b []byte, end int, want ...string) {
	t.Helper()
	l, got, e := journal.Records(b)
	if !slices.Equal(texts(l), want) || got != end || e != api.OK {
		t.Fatalf("Records of %d bytes: %.60q, to %d, error %d; want %.60q, to %d", len(b), l, got, e, want, end)
	}
}

// recordsAreWrong fails unless bytes have a wrong record, and nothing is told of others.
func recordsAreWrong(t *testing.T, b []byte) {
	t.Helper()
	l, end, e := journal.Records(b)
	if len(l) != 0 || end != 0 || e != api.ErrCorrupt {
		t.Fatalf("Records of %d bytes: %.60q, to %d, error %d", len(b), l, end, e)
	}
}

// rows are records of all lengths that tell something: of none, of many, of one that looks like a record itself.
func rows() [][]string {
	return [][]string{
		nil,
		{""},
		{"a"},
		{"", "", ""},
		{"a", "", "b"},
		{"first", "second one", "", "the third", "4"},
		{string(record(1, "within")), string(record(2, "within")), "x"},
		{long(300), "", long(17), "\x00\x00\x00\x00", strings.Repeat("\xff", 40)},
	}
}

// P6.1, P6.8: no bytes; whole records; each beginning of them: torn in the head, in the bytes, in the last sum.
func TestEachBeginning(t *testing.T) {
	recordsAre(t, nil, 0)
	recordsAre(t, []byte{}, 0)
	for _, l := range rows() {
		b := written(l...)
		whole, end := 0, 0
		for cut := range len(b) + 1 {
			if whole < len(l) && cut == end+20+len(l[whole]) {
				end = cut
				whole++
			}
			recordsAre(t, b[:cut], end, l[:whole]...)
			recordsAre(t, slices.Clip(bytes.Clone(b[:cut])), end, l[:whole]...)
		}
		if whole != len(l) {
			t.Fatalf("%d records of %d", whole, len(l))
		}
	}
}

// P6.8: what Record writes is read as it was, in any beginning, of records of any bytes.
func TestWhatRecordWritesRecordsReads(t *testing.T) {
	m := mixer(1)
	for range 300 {
		var want []string
		var b []byte
		ends := []int{0}
		for range m.below(6) {
			text := m.text(m.below(50))
			r, e := journal.Record(len(want)+1, []byte(text))
			answers(t, e, api.OK)
			want, b = append(want, text), append(b, r...)
			ends = append(ends, len(b))
		}
		for cut := range len(b) + 1 {
			whole := 0
			for whole+1 < len(ends) && ends[whole+1] <= cut {
				whole++
			}
			recordsAre(t, b[:cut], ends[whole], want[:whole]...)
		}
	}
}

// P6.1: the longest record there may be, torn and whole, and with one behind it.
func TestTheLongestRecord(t *testing.T) {
	most := long(api.MaxPack)
	r := record(1, most)
	for _, cut := range []int{0, 15, 16, 17, 65536, len(r) - 5, len(r) - 4, len(r) - 1} {
		recordsAre(t, r[:cut], 0)
	}
	recordsAre(t, r, len(r), most)
	recordsAre(t, written(most, "a", most), 2*len(r)+21, most, "a", most)
	recordsAre(t, append(bytes.Clone(r), 0), len(r), most)
}

// P6.1: heads that tell more than a record may have are wrong, not torn, whether these bytes are there or not; those that tell the most are right.
func TestHeadsThatTellTooMuch(t *testing.T) {
	for _, length := range []uint32{262145, 262146, 1 << 19, 1<<18 | 1<<8, 1 << 30, 1<<31 - 1, 1 << 31, 1<<31 + 1, 1<<32 - 4, 1<<32 - 1} {
		for _, ahead := range [][]string{nil, {"a"}, {"", "b"}} {
			b := append(written(ahead...), headOf(length, uint64(len(ahead)+1))...)
			recordsAreWrong(t, b)
			recordsAreWrong(t, append(bytes.Clone(b), make([]byte, 40)...))
			recordsAre(t, b[:len(b)-1], len(b)-16, ahead...)
		}
	}
	recordsAreWrong(t, record(1, long(262145)))
	recordsAreWrong(t, append(written("a"), record(2, long(262145))...))
	for _, length := range []uint32{262144, 262143, 131072, 1} {
		recordsAre(t, headOf(length, 1), 0)
		recordsAre(t, append(headOf(length, 1), 1, 2, 3), 0)
		recordsAre(t, append(written("a"), headOf(length, 2)...), 21, "a")
	}
	recordsAre(t, headOf(0, 1), 0)
}

// P6.1: numbers other than the one that is next, in heads of which all else is right.
func TestWrongNumbers(t *testing.T) {
	for _, l := range rows() {
		next := uint64(len(l) + 1)
		for _, n := range []uint64{0, next - 1, next + 1, next + 1<<8, next + 1<<16, next + 1<<32, next + 1<<53, next + 1<<56, next | 1<<63, next << 8, next << 56, -next, ^next, math.MaxUint64} {
			if n == next {
				continue
			}
			recordsAreWrong(t, append(written(l...), record(n, "a")...))
			recordsAreWrong(t, append(written(l...), headOf(5, n)...))
			// Of a head that is not there as a whole nothing is known.
			recordsAre(t, append(written(l...), headOf(5, n)[:15]...), len(written(l...)), l...)
		}
	}
	a, b := written("a"), record(2, "b")
	recordsAreWrong(t, slices.Concat(b, a))
	recordsAreWrong(t, slices.Concat(a, a))
	recordsAreWrong(t, slices.Concat(a, b, b))
	recordsAreWrong(t, b)
}

// P6.1: each bit of whole records: of the head, of the bytes, of both sums; behind whole ones and ahead of others.
func TestEachBit(t *testing.T) {
	for _, l := range rows() {
		b := written(l...)
		for i := range b {
			for bit := range 8 {
				b[i] ^= 1 << bit
				recordsAreWrong(t, b)
				b[i] ^= 1 << bit
			}
		}
		recordsAre(t, b, len(b), l...)
	}
}

// P6.1: sums that are right but for their form: the highest byte first, each bit the other way round, of other bytes.
func TestSumsOfAnotherForm(t *testing.T) {
	whole := record(1, "abc")
	for _, at := range []int{12, 19} {
		b := bytes.Clone(whole)
		slices.Reverse(b[at : at+4])
		recordsAreWrong(t, b)
		b = bytes.Clone(whole)
		for i := range 4 {
			b[at+i] ^= 0xFF
		}
		recordsAreWrong(t, b)
		copy(b[at:], "\x00\x00\x00\x00")
		recordsAreWrong(t, b)
		copy(b[at:], "\xff\xff\xff\xff")
		recordsAreWrong(t, b)
	}
	for _, other := range [][]byte{sumOf([]byte("abc")), sumOf(whole[:19]), sumOf(whole[:12]), sumOf(whole[12:19])} {
		recordsAreWrong(t, slices.Concat(whole[:19], other))
	}
	for _, other := range [][]byte{sumOf(whole[:4]), sumOf(whole[4:12]), sumOf(whole[:19]), sumOf(nil)} {
		recordsAreWrong(t, slices.Concat(whole[:12], other, whole[16:]))
		recordsAreWrong(t, slices.Concat(whole[:12], other))
	}
	// A head with the lowest byte first, of which all sums are right.
	low := []byte{3, 0, 0, 0, 1, 0, 0, 0, 0, 0, 0, 0}
	recordsAreWrong(t, slices.Concat(low, sumOf(low), []byte("abc"), sumOf(append(bytes.Clone(low), "abc"...))))
}

// P6.1: a wrong head is told though the record is torn; a torn record whose head is right is torn, whatever its bytes are.
func TestTornOrWrong(t *testing.T) {
	for _, ahead := range [][]string{nil, {"a"}, {"", "b", "c"}} {
		l := written(ahead...)
		r := record(uint64(len(ahead)+1), "0123456789")
		for cut := range len(r) {
			for i := range cut {
				b := slices.Concat(l, r[:cut])
				b[len(l)+i] ^= 0x10
				if cut >= 16 && i < 16 {
					recordsAreWrong(t, b)
				} else {
					recordsAre(t, b, len(l), ahead...)
				}
			}
		}
	}
}

// P6.1: any bytes: records of which some are cut out, put in, changed; as the chapter's words have it.
func TestRecordsOfAnyBytes(t *testing.T) {
	m := mixer(2)
	told := [2]int{}
	for range 20000 {
		var b []byte
		for n := range m.below(4) {
			b = append(b, record(uint64(n+1+m.below(12)/11), m.text(m.below(12)))...)
		}
		switch m.below(6) {
		case 0:
			b = b[:m.below(len(b)+1)]
		case 1:
			b = append(b, m.text(m.below(40))...)
		case 2:
			b = append(b, make([]byte, m.below(40))...)
		case 3:
			if len(b) > 0 {
				b[m.below(len(b))] ^= byte(m.next())
			}
		case 4:
			at := m.below(len(b) + 1)
			b = slices.Insert(b, at, byte(m.next()))
		}
		l, end, wrong := parsed(b)
		if wrong {
			recordsAreWrong(t, b)
			told[1]++
		} else {
			recordsAre(t, b, end, l...)
			told[0]++
		}
	}
	if told[0] < 1000 || told[1] < 1000 {
		t.Errorf("right and wrong ones: %d", told)
	}
}

// P6.1: as many records as a disk has room for.
func TestManyRecords(t *testing.T) {
	const n = 100000
	var b []byte
	for i := range n {
		b = append(b, record(uint64(i+1), "")...)
	}
	l, end, e := journal.Records(b)
	if len(l) != n || end != 20*n || e != api.OK {
		t.Errorf("%d records, to %d, error %d", len(l), end, e)
	}
	b[len(b)-1] ^= 1
	recordsAreWrong(t, b)
}
