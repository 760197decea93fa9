package journal_test

import (
	"bytes"
	"encoding/binary"
	"hash/crc32"
	"slices"
	"strings"
	"testing"

	"incunable/api"
	"incunable/disk"
	"incunable/journal"
)

// mixer makes numbers that look like chance and are always the same.
type mixer uint64

func (m *mixer) next() uint32 {
	*m = *m*6364136223846793005 + 1442695040888963407
	return uint32(*m >> 32)
}

func (m *mixer) below(n int) int {
	return int(m.next() % uint32(n))
}

func (m *mixer) text(n int) string {
	b := make([]byte, n)
	for i := range b {
		b[i] = byte(m.next())
	}
	return string(b)
}

// sumOf is crc's sum as a record has it, by the library's means.
func sumOf(b []byte) []byte {
	return binary.LittleEndian.AppendUint32(nil, crc32.ChecksumIEEE(b))
}

// headOf is a head that tells so many bytes and that number, whatever they are; its sum is right.
func headOf(length uint32, n uint64) []byte {
	b := binary.BigEndian.AppendUint32(nil, length)
	b = binary.BigEndian.AppendUint64(b, n)
	return append(b, sumOf(b)...)
}

// record is a record's bytes by the chapter's words, whatever its number and its length are.
func record(n uint64, text string) []byte {
	h := headOf(uint32(len(text)), n)
	return slices.Concat(h, []byte(text), sumOf(append(bytes.Clone(h[:12]), text...)))
}

// written are records one behind the other, numbered from 1 on.
func written(l ...string) []byte {
	var b []byte
	for i, text := range l {
		b = append(b, record(uint64(i+1), text)...)
	}
	return b
}

// parsed are the whole records in bytes, where the last one ends, and whether one is wrong, by the chapter's words.
func parsed(b []byte) (l []string, end int, wrong bool) {
	for n := uint64(1); len(b)-end >= 16; n++ {
		rest := b[end:]
		length := uint64(binary.BigEndian.Uint32(rest))
		if !bytes.Equal(sumOf(rest[:12]), rest[12:16]) || binary.BigEndian.Uint64(rest[4:]) != n || length > 262144 {
			return nil, 0, true
		}
		if uint64(len(rest)) < 16+length+4 {
			break
		}
		text := string(rest[16 : 16+length])
		if !bytes.HasPrefix(rest, record(n, text)) {
			return nil, 0, true
		}
		l, end = append(l, text), end+20+len(text)
	}
	return l, end, false
}

// texts are bytes as texts.
func texts(l [][]byte) []string {
	var out []string
	for _, b := range l {
		out = append(out, string(b))
	}
	return out
}

// lists are texts as bytes.
func lists(l ...string) [][]byte {
	var out [][]byte
	for _, text := range l {
		out = append(out, []byte(text))
	}
	return out
}

// long is a text of so many bytes, not all alike.
func long(n int) string {
	return strings.Repeat("all that is long, ", n/18+1)[:n]
}

// answers fails unless the error is the one that is wanted.
func answers(t *testing.T, got, want api.Errno) {
	t.Helper()
	if got != want {
		t.Fatalf("error %d, want %d", got, want)
	}
}

// must fails unless all is well.
func must(t *testing.T, l ...api.Errno) {
	t.Helper()
	for i, e := range l {
		if e != api.OK {
			t.Fatalf("call %d: error %d", i, e)
		}
	}
}

// newDisk is an empty disk.
func newDisk(t *testing.T, room int) *disk.Disk {
	t.Helper()
	d, e := disk.New(room)
	if d == nil || e != api.OK {
		t.Fatalf("New(%d): error %d", room, e)
	}
	return d
}

// opens is the disk's journal; it fails unless it has just these records, all kept.
func opens(t *testing.T, d *disk.Disk, want ...string) *journal.Journal {
	t.Helper()
	j, l, e := journal.Open(d)
	if j == nil || e != api.OK {
		t.Fatalf("Open: error %d", e)
	}
	if !slices.Equal(texts(l), want) {
		t.Fatalf("Open: %q, want %q", l, want)
	}
	tells(t, j, len(want), len(want))
	return j
}

// refuses fails unless Open answers that error, and nothing else.
func refuses(t *testing.T, d *disk.Disk, want api.Errno) {
	t.Helper()
	j, l, e := journal.Open(d)
	if j != nil || len(l) != 0 || e != want {
		t.Fatalf("Open: a journal %v, %q, error %d, want %d", j != nil, l, e, want)
	}
}

// begun is a journal with these records, all kept, on a new disk.
func begun(t *testing.T, room int, l ...string) (*disk.Disk, *journal.Journal) {
	t.Helper()
	d := newDisk(t, room)
	j := opens(t, d)
	for _, text := range l {
		must(t, j.Append([]byte(text)))
	}
	must(t, j.Sync())
	tells(t, j, len(l), len(l))
	return d, j
}

// laid is a disk with these bytes as "journal", kept.
func laid(t *testing.T, b []byte) *disk.Disk {
	t.Helper()
	d := newDisk(t, 1<<24)
	must(t, d.Append("journal", b), d.Sync("journal"), d.SyncNames())
	return d
}

// tells fails unless the journal, which is not broken, has so many records, of which so many are kept.
func tells(t *testing.T, j *journal.Journal, count, kept int) {
	t.Helper()
	if j.Len() != count || j.Kept() != kept || j.Broken() {
		t.Fatalf("Len %d, Kept %d, Broken %v, want %d, %d", j.Len(), j.Kept(), j.Broken(), count, kept)
	}
}

// isBroken fails unless the journal is, and all calls answer so.
func isBroken(t *testing.T, j *journal.Journal) {
	t.Helper()
	for range 2 {
		if j.Len() != 0 || j.Kept() != 0 || !j.Broken() {
			t.Fatalf("Len %d, Kept %d, Broken %v", j.Len(), j.Kept(), j.Broken())
		}
		allAnswer(t, j, api.ErrDead)
	}
}

// allAnswer fails unless all calls that answer an error answer that one, whatever they are handed.
func allAnswer(t *testing.T, j *journal.Journal, want api.Errno) {
	t.Helper()
	tooLong := make([]byte, api.MaxPack+1)
	for _, b := range [][]byte{nil, {}, []byte("a"), tooLong} {
		answers(t, j.Append(b), want)
		answers(t, j.Checkpoint([][]byte{b}), want)
	}
	answers(t, j.Sync(), want)
	answers(t, j.Checkpoint(nil), want)
	answers(t, j.Checkpoint(make([][]byte, 10001)), want)
}

// hasFiles fails unless the disk has just these files: names and bytes, in turn.
func hasFiles(t *testing.T, d *disk.Disk, want ...string) {
	t.Helper()
	var got []string
	for _, name := range d.Names() {
		b, e := d.Read(name)
		must(t, e)
		got = append(got, name, string(b))
	}
	if !slices.Equal(got, want) {
		t.Fatalf("files: %.300q, want %.300q", got, want)
	}
}

// falls lets the power go, and come back.
func falls(d *disk.Disk, keep ...int) *disk.Disk {
	d.Crash(keep)
	d.Boot()
	return d
}
