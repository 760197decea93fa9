package pack_test

import (
	"bytes"
	"encoding/binary"
	"hash/crc32"
	"testing"

	"incunable/api"
	"incunable/pack"
)

// mixer makes numbers that look like chance and are always the same.
type mixer uint64

func (m *mixer) next() uint32 {
	*m = *m*6364136223846793005 + 1442695040888963407
	return uint32(*m >> 32)
}

func (m *mixer) below(n int) int {
	return int(m.next() % uint32(n))
}

func (m *mixer) bytes(n int) []byte {
	b := make([]byte, n)
	for i := range b {
		b[i] = byte(m.next())
	}
	return b
}

// sections are some with rising tags and data of all kinds of lengths.
func (m *mixer) sections() []api.Section {
	var l []api.Section
	lengths := []int{0, 1, 2, 3, 9, 127, 128, 129, 300}
	for tag := 1 + m.below(60); tag <= 255; tag += 1 + m.below(80) {
		l = append(l, section(tag, m.bytes(lengths[m.below(len(lengths))])))
	}
	return l
}

func section(tag int, data []byte) api.Section {
	return api.Section{Tag: tag, Data: data}
}

// withSum is bytes with another's sum of them behind, whatever they are.
func withSum(b []byte) []byte {
	return binary.LittleEndian.AppendUint32(bytes.Clone(b), crc32.ChecksumIEEE(b))
}

// around is what stands around the bytes of sections, right in all, whatever these are.
func around(kind int, body []byte) []byte {
	b := binary.LittleEndian.AppendUint32([]byte{0x49, 0x50}, uint32(11+len(body)))
	b = append(b, byte(kind))
	return withSum(append(b, body...))
}

// bytesOf are a pack's bytes by the chapter's words, none of them by the program.
func bytesOf(kind int, l []api.Section) []byte {
	var body []byte
	for _, s := range l {
		body = append(body, byte(s.Tag))
		body = binary.AppendUvarint(body, uint64(len(s.Data)))
		body = append(body, s.Data...)
	}
	return around(kind, body)
}

// sameSections tells whether tags and data are the same, one by one; nil is as good as no elements.
func sameSections(a, b []api.Section) bool {
	if len(a) != len(b) {
		return false
	}
	for i := range a {
		if a[i].Tag != b[i].Tag || !bytes.Equal(a[i].Data, b[i].Data) {
			return false
		}
	}
	return true
}

func mustPack(t *testing.T, kind int, l []api.Section) []byte {
	t.Helper()
	b, e := pack.Pack(kind, l)
	if e != api.OK {
		t.Fatalf("Pack(%d, %d sections): error %d", kind, len(l), e)
	}
	return b
}

// packRefuses fails unless the error is all that is answered.
func packRefuses(t *testing.T, what string, kind int, l []api.Section, want api.Errno) {
	t.Helper()
	if b, e := pack.Pack(kind, l); len(b) != 0 || e != want {
		t.Errorf("Pack of %s: %d bytes, error %d; want error %d alone", what, len(b), e, want)
	}
}

// unpackRefuses fails unless the error is all that is answered.
func unpackRefuses(t *testing.T, what string, b []byte, want api.Errno) {
	t.Helper()
	if kind, l, e := pack.Unpack(b); kind != 0 || len(l) != 0 || e != want {
		t.Errorf("Unpack of %s: %d, %d sections, error %d; want error %d alone", what, kind, len(l), e, want)
	}
}

// unpacksTo fails unless just these are answered.
func unpacksTo(t *testing.T, what string, b []byte, kind int, l []api.Section) {
	t.Helper()
	if k, got, e := pack.Unpack(b); k != kind || !sameSections(got, l) || e != api.OK {
		t.Errorf("Unpack of %s: %d, %d sections, error %d; want %d, %d sections", what, k, len(got), e, kind, len(l))
	}
}
