package shelf_test

import (
	"bytes"
	"crypto/sha256"
	"encoding/binary"
	"fmt"
	"hash/crc32"
	"math"
	"regexp"
	"slices"
	"strings"
	"testing"

	"incunable/api"
	"incunable/disk"
	"incunable/shelf"
)

const (
	mostKey  = 65536
	mostData = 180000
)

// mixer makes numbers that look like chance and are always the same.
type mixer uint64

func (m *mixer) next() uint32 {
	*m = *m*6364136223846793005 + 1442695040888963407
	return uint32(*m >> 32)
}

func (m *mixer) below(n int) int {
	return int(m.next() % uint32(n))
}

func (m *mixer) text(n int) string {
	b := make([]byte, n)
	for i := range b {
		b[i] = byte(m.next())
	}
	return string(b)
}

// keep is numbers to keep by, some of them far beyond what they tell apart.
func (m *mixer) keep() []int {
	l := make([]int, m.below(6))
	for i := range l {
		switch m.below(8) {
		case 0:
			l[i] = -m.below(50)
		case 1:
			l[i] = []int{math.MinInt, math.MaxInt, 1 << 40}[m.below(3)]
		default:
			l[i] = m.below(60)
		}
	}
	return l
}

// section is a section's bytes, its data of any length.
func section(tag byte, text string) string {
	return string(binary.AppendUvarint([]byte{tag}, uint64(len(text)))) + text
}

// packed is the bytes of a pack by chapter 3's words, whatever its kind and what stands in it.
func packed(kind byte, inner ...string) string {
	body := strings.Join(inner, "")
	b := binary.LittleEndian.AppendUint32([]byte("IP"), uint32(2+4+1+len(body)+4))
	b = append(append(b, kind), body...)
	return string(binary.LittleEndian.AppendUint32(b, crc32.ChecksumIEEE(b)))
}

// written is what a file of the shelf has.
func written(key, data string) string {
	return packed(7, section(1, key), section(2, data))
}

// readable is what is in a file, if it can be read: what would be written so.
func readable(text string) (key, data string, is bool) {
	take := func(at int) (string, int) {
		if at > len(text) {
			return "", 1 << 30
		}
		n, size := binary.Uvarint([]byte(text[at:]))
		if size < 1 || n > uint64(len(text)-at-size) {
			return "", 1 << 30
		}
		end := at + size + int(n)
		return text[at+size : end], end
	}
	key, end := take(8)
	data, _ = take(end + 1)
	is = text == written(key, data) && key != "" && len(key) <= mostKey && len(data) <= mostData
	if !is {
		return "", "", false
	}
	return key, data, true
}

// digits are a key's, by the library's means.
func digits(key string) string {
	return fmt.Sprintf("%x", sha256.Sum256([]byte(key)))[:16]
}

// nameOf is the name of a key's file, whatever the number is.
func nameOf(key string, n int) string {
	return fmt.Sprintf("s-%s-%d", digits(key), n)
}

// ofShelf is how names of the shelf's files look.
var ofShelf = regexp.MustCompile(`\As-[0-9a-f]{16}-(0|[1-9][0-9]{0,4})\z`)

// texts are bytes as texts.
func texts(l [][]byte) []string {
	var out []string
	for _, b := range l {
		out = append(out, string(b))
	}
	return out
}

// lists are texts as bytes.
func lists(l ...string) [][]byte {
	var out [][]byte
	for _, text := range l {
		out = append(out, []byte(text))
	}
	return out
}

// long is a text of so many bytes, not all alike.
func long(n int) string {
	return strings.Repeat("all that is long, ", n/18+1)[:n]
}

// answers fails unless the error is the one that is wanted.
func answers(t *testing.T, got, want api.Errno) {
	t.Helper()
	if got != want {
		t.Fatalf("error %d, want %d", got, want)
	}
}

// must fails unless all is well.
func must(t *testing.T, l ...api.Errno) {
	t.Helper()
	for i, e := range l {
		if e != api.OK {
			t.Fatalf("call %d: error %d", i, e)
		}
	}
}

// newDisk is an empty disk.
func newDisk(t *testing.T, room int) *disk.Disk {
	t.Helper()
	d, e := disk.New(room)
	if d == nil || e != api.OK {
		t.Fatalf("New(%d): error %d", room, e)
	}
	return d
}

// opens is the disk's shelf, which is not broken.
func opens(t *testing.T, d *disk.Disk) *shelf.Shelf {
	t.Helper()
	s, e := shelf.Open(d)
	if s == nil || e != api.OK {
		t.Fatalf("Open: a shelf %v, error %d", s != nil, e)
	}
	if s.Broken() {
		t.Fatal("Open: a broken shelf")
	}
	return s
}

// begun is a shelf on a new disk, with keys and data, in turn.
func begun(t *testing.T, room int, l ...string) (*disk.Disk, *shelf.Shelf) {
	t.Helper()
	d := newDisk(t, room)
	s := opens(t, d)
	for pair := range slices.Chunk(l, 2) {
		puts(t, s, pair[0], pair[1])
	}
	return d, s
}

// lay writes files by hand, names and bytes in turn, all kept.
func lay(t *testing.T, d *disk.Disk, l ...string) {
	t.Helper()
	for pair := range slices.Chunk(l, 2) {
		must(t, d.Append(pair[0], []byte(pair[1])), d.Sync(pair[0]))
	}
	must(t, d.SyncNames())
}

// laid is a shelf on a new disk with files that were written by hand.
func laid(t *testing.T, l ...string) (*disk.Disk, *shelf.Shelf) {
	t.Helper()
	d := newDisk(t, 1<<24)
	lay(t, d, l...)
	return d, opens(t, d)
}

// puts puts data on a shelf.
func puts(t *testing.T, s *shelf.Shelf, key, data string) {
	t.Helper()
	if e := s.Put([]byte(key), []byte(data)); e != api.OK {
		t.Fatalf("Put(%.20q): error %d", key, e)
	}
}

// gets fails unless the shelf has these keys, with this data, in turn.
func gets(t *testing.T, s *shelf.Shelf, l ...string) {
	t.Helper()
	for pair := range slices.Chunk(l, 2) {
		data, is, e := s.Get([]byte(pair[0]))
		if e != api.OK || !is || string(data) != pair[1] {
			t.Fatalf("Get(%.20q) = %.200q, %v, error %d, want %.200q", pair[0], data, is, e, pair[1])
		}
	}
}

// lacks fails unless Get answers that error, or that there is none, of each of these keys.
func lacks(t *testing.T, s *shelf.Shelf, want api.Errno, keys ...string) {
	t.Helper()
	for _, key := range keys {
		data, is, e := s.Get([]byte(key))
		if e != want || is || len(data) != 0 {
			t.Fatalf("Get(%.20q) = %.200q, %v, error %d, want error %d", key, data, is, e, want)
		}
	}
}

// tells fails unless the shelf has just these keys, and so many files that can't be read.
func tells(t *testing.T, s *shelf.Shelf, bad int, keys ...string) {
	t.Helper()
	for range 2 {
		if got := texts(s.Keys()); !slices.Equal(got, keys) {
			t.Fatalf("Keys: %.300q, want %.300q", got, keys)
		}
		if got := s.Bad(); got != bad {
			t.Fatalf("Bad: %d, want %d", got, bad)
		}
	}
	if s.Broken() {
		t.Fatal("the shelf is broken")
	}
}

// files are a disk's, names and bytes in turn.
func files(d *disk.Disk) []string {
	var l []string
	for _, name := range d.Names() {
		b, _ := d.Read(name)
		l = append(l, name, string(b))
	}
	return l
}

// hasFiles fails unless the disk has just these files, names and bytes in turn, in any order.
func hasFiles(t *testing.T, d *disk.Disk, want ...string) {
	t.Helper()
	sorted := func(l []string) []string {
		var all []string
		for pair := range slices.Chunk(l, 2) {
			all = append(all, pair[0]+": "+pair[1])
		}
		slices.Sort(all)
		return all
	}
	if got, want := sorted(files(d)), sorted(want); !slices.Equal(got, want) {
		t.Fatalf("files: %.500q, want %.500q", got, want)
	}
}

// isBroken fails unless the shelf is, and all calls answer so.
func isBroken(t *testing.T, s *shelf.Shelf) {
	t.Helper()
	for range 2 {
		if !s.Broken() {
			t.Fatal("the shelf is not broken")
		}
		allAnswer(t, s, api.ErrDead)
	}
}

// allAnswer fails unless all calls that answer an error answer that one, whatever they are handed, and the others nothing.
func allAnswer(t *testing.T, s *shelf.Shelf, want api.Errno) {
	t.Helper()
	for _, key := range []string{"", "a", "b", long(mostKey + 1)} {
		for _, data := range []string{"", "x", long(mostData + 1)} {
			answers(t, s.Put([]byte(key), []byte(data)), want)
		}
		lacks(t, s, want, key)
		answers(t, s.Sweep(lists(key)), want)
	}
	answers(t, s.Sweep(nil), want)
	if l := s.Keys(); len(l) != 0 {
		t.Fatalf("Keys: %q", l)
	}
	if n := s.Bad(); n != 0 {
		t.Fatalf("Bad: %d", n)
	}
}

// falls lets the power go, and come back.
func falls(d *disk.Disk, keep ...int) *disk.Disk {
	d.Crash(keep)
	d.Boot()
	return d
}

// noWork fails if a call does a work of the disk, or changes a file.
func noWork(t *testing.T, d *disk.Disk, call func()) {
	t.Helper()
	before, left := files(d), d.Left()
	d.Fail(0, nil)
	call()
	if d.Dead() {
		t.Fatal("a work of the disk was done")
	}
	d.Fail(-1, nil)
	if !slices.Equal(files(d), before) || d.Left() != left {
		t.Fatal("a file has changed")
	}
}

// works is how many works of the disk a call does, till the power would go at the next one. The calls are done to disks of their own.
func works(t *testing.T, begin func() (*disk.Disk, func() api.Errno)) int {
	t.Helper()
	for n := range 1000 {
		d, call := begin()
		d.Fail(n, nil)
		e := call()
		if !d.Dead() {
			return n
		}
		answers(t, e, api.ErrDead)
	}
	t.Fatal("there is no end of works")
	return 0
}

// inRoom is a text's bytes with others ahead of them and spare room behind, and the whole of both.
func inRoom(text string) (inner, whole []byte) {
	whole = bytes.Repeat([]byte{0xA5}, len(text)+100)
	copy(whole[8:], text)
	return whole[8 : 8+len(text)], whole
}

// spoil turns every bit of b, its spare room with it.
func spoil(b []byte) {
	b = b[:cap(b)]
	for i := range b {
		b[i] ^= 0xFF
	}
}
