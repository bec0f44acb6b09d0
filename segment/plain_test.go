package segment

import (
	"bytes"
	"encoding/binary"
	"fmt"
	"hash/crc32"
	"math/rand"
	"regexp"
	"slices"
	"strconv"
	"testing"

	"pneumatic/api"
)

// What this file has is by the words of the chapters alone: what the package is held against.

// named answers a segment's name.
func named(place int, first uint64) string { return fmt.Sprintf("s%d-%013d", place, first) }

var nameForm = regexp.MustCompile(`\As([0-3])-([0-9]{13})\z`)

// read answers what a segment's name says; false, if it is none.
func read(name string) (int, uint64, bool) {
	m := nameForm.FindStringSubmatch(name)
	if m == nil {
		return 0, 0, false
	}
	n, err := strconv.ParseUint(m[2], 10, 64)
	if err != nil || n < 1 || n > 1<<40 {
		return 0, 0, false
	}
	return int(m[1][0] - '0'), n, true
}

// framed answers the frame of those bytes, of which there may be none, or too many.
func framed(b []byte) []byte {
	f := append(binary.LittleEndian.AppendUint32(nil, uint32(len(b))), b...)
	return binary.LittleEndian.AppendUint32(f, crc32.Checksum(f, crc32.MakeTable(crc32.Castagnoli)))
}

// form answers what has a record's form, but for a number and data that may not be.
func form(n uint64, data []byte) []byte {
	return framed(append(binary.AppendUvarint(nil, n), data...))
}

// forms answers the forms of l, one behind the other.
func forms(l []Rec) []byte {
	var b []byte
	for _, r := range l {
		b = append(b, form(r.N, r.Data)...)
	}
	return b
}

// begins answers the record with whose form b begins, and how many bytes it has; false, if it begins with none.
func begins(b []byte) (Rec, int, bool) {
	if len(b) < 4 {
		return Rec{}, 0, false
	}
	n := uint64(binary.LittleEndian.Uint32(b)) + 8
	if n > uint64(len(b)) {
		return Rec{}, 0, false
	}
	f := b[:n]
	number, size := binary.Uvarint(f[4 : n-4])
	if size <= 0 || number < 1 || number > 1<<40 {
		return Rec{}, 0, false
	}
	data := f[4+size : n-4]
	if len(data) > 1500 || !bytes.Equal(form(number, data), f) {
		return Rec{}, 0, false
	}
	return Rec{N: number, Data: data}, len(f), true
}

// parted answers the records of what is whole of b, and how many bytes these are.
func parted(b []byte, first uint64) ([]Rec, int) {
	if first < 1 || first > 1<<40 {
		return nil, 0
	}
	var l []Rec
	whole, above := 0, first-1
	for {
		r, size, is := begins(b[whole:])
		if !is || r.N <= above {
			return l, whole
		}
		l, whole, above = append(l, r), whole+size, r.N
	}
}

// sparse answers the sparse places of l: where a form begins is how many bytes the forms ahead have.
func sparse(l []Rec) []Place {
	end := 0
	for end < len(l) && l[end].N >= 1 && l[end].N <= 1<<40 && len(l[end].Data) <= 1500 {
		end++
	}
	var places []Place
	for i := 0; i < end; i += 4 {
		places = append(places, Place{N: l[i].N, At: len(forms(l[:i]))})
	}
	return places
}

// What is tried.

// some answers size bytes.
func some(r *rand.Rand, size int) []byte {
	b := make([]byte, size)
	r.Read(b)
	return b
}

// edges answers numbers at which a form has one byte more, and the least and the greatest one that may be.
func edges() []uint64 {
	return []uint64{1, 2, 126, 127, 128, 129, 255, 256, 1<<14 - 1, 1 << 14, 1<<21 - 1, 1 << 21, 1<<28 - 1, 1 << 28, 1<<32 - 1, 1 << 32, 1<<35 - 1, 1 << 35, 1<<40 - 1, 1 << 40}
}

// wrong answers numbers that may not be; some of them may, if but their lowest bits are looked at.
func wrong() []uint64 {
	return []uint64{0, 1<<40 + 1, 1<<40 + 2, 1 << 41, 1<<42 - 1, 1 << 42, 1<<42 + 1, 1<<49 + 5, 1 << 62, 1 << 63, 1<<63 + 1, 1<<64 - 2, 1<<64 - 1}
}

// row answers up to most records of few bytes, whose numbers rise from first on, and do not get too great.
func row(r *rand.Rand, first uint64, most int) []Rec {
	var l []Rec
	n := first
	for range r.Intn(most + 1) {
		n += uint64(r.Intn(3) * r.Intn(60))
		if n > 1<<40 {
			break
		}
		l = append(l, Rec{N: n, Data: some(r, r.Intn(6))})
		n++
	}
	return l
}

// start answers a first number that may be, some of them near an edge.
func start(r *rand.Rand) uint64 {
	if r.Intn(2) == 0 {
		return uint64(1 + r.Intn(200))
	}
	l := edges()
	return max(1, l[r.Intn(len(l))]-uint64(r.Intn(2)))
}

// same tells whether both are the same records.
func same(a, b []Rec) bool {
	if len(a) != len(b) {
		return false
	}
	for i := range a {
		if a[i].N != b[i].N || string(a[i].Data) != string(b[i].Data) {
			return false
		}
	}
	return true
}

// copied answers l in memory of its own.
func copied(l []Rec) []Rec {
	l = slices.Clone(l)
	for i := range l {
		l[i].Data = slices.Clone(l[i].Data)
	}
	return l
}

// What is held.

// told fails unless Split(b, first) tells those records, and that so many bytes are whole.
func told(t *testing.T, b []byte, first uint64, want []Rec, whole int) {
	t.Helper()
	if l, n := Split(b, first); n != whole || !same(l, want) {
		t.Fatalf("Split(%.200x, %d): %.200v, %d, not %.200v, %d", b, first, l, n, want, whole)
	}
}

// held fails unless Split(b, first) tells what the chapter's words alone ask.
func held(t *testing.T, b []byte, first uint64) {
	t.Helper()
	l, n := parted(b, first)
	told(t, b, first, l, n)
}

// refused fails unless Put of that record tells that error, and nothing beside it.
func refused(t *testing.T, n uint64, size int, want api.Errno) {
	t.Helper()
	if b, e := Put(Rec{N: n, Data: make([]byte, size)}); e != want || len(b) != 0 {
		t.Errorf("Put of %d and %d bytes: %x, %d, not %d", n, size, b, e, want)
	}
}
