package frame

import (
	"bytes"
	"hash/crc32"
	"math/rand"
	"slices"
	"testing"

	"pneumatic/api"
	"pneumatic/crc"
)

// sealed answers b with its sum behind it, by the words of chapter 9 alone.
func sealed(b []byte) []byte {
	n := crc32.Checksum(b, crc32.MakeTable(crc32.Castagnoli))
	return append(slices.Clone(b), byte(n), byte(n/0x100), byte(n/0x10000), byte(n/0x1000000))
}

// saying answers bytes in a frame's form that say n, whatever stands behind it, with a sum that is right.
func saying(n uint32, b []byte) []byte {
	return sealed(append([]byte{byte(n), byte(n / 0x100), byte(n / 0x10000), byte(n / 0x1000000)}, b...))
}

// framed answers record's frame by the words of the chapter alone.
func framed(record []byte) []byte { return saying(uint32(len(record)), record) }

// begins answers the record whose frame begins with b, by the words of the chapter alone: of all records that may be, the one whose frame b begins with.
func begins(b []byte) []byte {
	for n := 1; n <= 2048 && 4+n+4 <= len(b); n++ {
		if f := b[:4+n+4]; bytes.Equal(framed(f[4:4+n]), f) {
			return f[4 : 4+n]
		}
	}
	return nil
}

// parted answers the records of b's frames, and how many bytes are whole, by the words of the chapter alone.
func parted(b []byte) ([][]byte, int) {
	var l [][]byte
	whole := 0
	for {
		record := begins(b[whole:])
		if record == nil {
			return l, whole
		}
		l, whole = append(l, record), whole+len(framed(record))
	}
}

// some answers size bytes.
func some(r *rand.Rand, size int) []byte {
	b := make([]byte, size)
	r.Read(b)
	return b
}

// records answers records of many lengths and sorts; also ones that look like frames, or like a frame's beginning.
func records() [][]byte {
	r := rand.New(rand.NewSource(11))
	l := [][]byte{[]byte("ab"), []byte("one"), {0}, {1, 0, 0, 0}, {255, 255, 255, 255}, framed([]byte("in")), framed([]byte("in"))[:9], sealed([]byte("no"))}
	for size := 1; size < 40; size++ {
		l = append(l, make([]byte, size), bytes.Repeat([]byte{0xff}, size), some(r, size))
	}
	for _, size := range []int{127, 128, 255, 256, 257, 300, 511, 512, 1023, 1024, 2040, 2044, 2047, 2048} {
		l = append(l, make([]byte, size), some(r, size))
	}
	return l
}

// row answers up to most frames of records of few bytes, one behind the other, and those records.
func row(r *rand.Rand, most int) ([]byte, [][]byte) {
	var b []byte
	var l [][]byte
	for range r.Intn(most + 1) {
		record := some(r, 1+r.Intn(12))
		b, l = append(b, framed(record)...), append(l, record)
	}
	return b, l
}

// same tells whether these are the same records.
func same(l, k [][]byte) bool { return slices.EqualFunc(l, k, bytes.Equal) }

// told fails unless Split(b) tells these records, and that so many bytes are whole.
func told(t *testing.T, b []byte, want [][]byte, whole int) {
	t.Helper()
	if l, n := Split(b); !same(l, want) || n != whole {
		t.Fatalf("Split(%x): %x, %d, not %x, %d", b, l, n, want, whole)
	}
}

// held fails unless Split(b) tells what the chapter's words alone ask.
func held(t *testing.T, b []byte) {
	t.Helper()
	want, whole := parted(b)
	told(t, b, want, whole)
}

// P11.1

func TestMost(t *testing.T) {
	if Most != 2048 {
		t.Error(Most)
	}
}

func TestPutOfSome(t *testing.T) {
	for _, x := range []struct{ record, want string }{
		{"123456789", "\x09\x00\x00\x00123456789\x78\xd2\x17\x57"},
		{"ab", "\x02\x00\x00\x00ab\xad\x82\x65\x9f"},
		{"\x00", "\x01\x00\x00\x00\x00\x99\x19\x63\x7d"},
		{"one", "\x03\x00\x00\x00one\xa6\x0e\xcb\x49"},
	} {
		if f, e := Put([]byte(x.record)); e != api.OK || string(f) != x.want {
			t.Errorf("Put(%q): %x, %d, not %x", x.record, f, e, x.want)
		}
	}
}

func TestPutIsOneSumOfLengthAndRecord(t *testing.T) {
	for _, record := range records() {
		f, e := Put(record)
		if e != api.OK || !bytes.Equal(f, framed(record)) {
			t.Fatalf("Put(%x): %x, %d, not %x", record, f, e, framed(record))
		}
		in, e := crc.Take(f)
		if n := len(record); e != api.OK || !bytes.Equal(in, append([]byte{byte(n), byte(n >> 8), 0, 0}, record...)) {
			t.Fatalf("crc.Take of Put(%x): %x, %d", record, in, e)
		}
	}
}

func TestPutOfEachLength(t *testing.T) {
	r := rand.New(rand.NewSource(12))
	for n := 1; n <= 2048; n++ {
		record := some(r, n)
		f, e := Put(record)
		if e != api.OK || !bytes.Equal(f, framed(record)) {
			t.Fatal(n, e, len(f))
		}
		if Size(record) != len(f) || Size(record) != n+8 {
			t.Fatal(n, Size(record))
		}
		told(t, f, [][]byte{record}, len(f))
	}
}

func TestWhatHasNoFrame(t *testing.T) {
	for _, x := range []struct {
		record []byte
		want   api.Errno
	}{
		{nil, api.ErrArg}, {[]byte{}, api.ErrArg}, {make([]byte, 0, 9), api.ErrArg},
		{make([]byte, 2049), api.ErrLong}, {make([]byte, 2050), api.ErrLong}, {make([]byte, 4096), api.ErrLong},
		{bytes.Repeat([]byte{1}, 65536), api.ErrLong}, {bytes.Repeat([]byte{1}, 65537), api.ErrLong}, {make([]byte, 1<<24+1), api.ErrLong},
	} {
		if f, e := Put(x.record); e != x.want || len(f) != 0 {
			t.Errorf("Put of %d bytes: %x, %d, not %d", len(x.record), f, e, x.want)
		}
		if n := Size(x.record); n != 0 {
			t.Errorf("Size of %d bytes: %d", len(x.record), n)
		}
	}
}

func TestSize(t *testing.T) {
	for _, x := range []struct{ n, want int }{{0, 0}, {1, 9}, {2, 10}, {3, 11}, {256, 264}, {2047, 2055}, {2048, 2056}, {2049, 0}, {4096, 0}} {
		if n := Size(make([]byte, x.n)); n != x.want {
			t.Errorf("Size of %d bytes: %d, not %d", x.n, n, x.want)
		}
	}
	for _, record := range records() {
		if f, _ := Put(record); Size(record) != len(f) {
			t.Errorf("Size(%x): %d, not %d", record, Size(record), len(f))
		}
	}
}

// P11.2

func TestSplitOfTwoFramesAndOneByte(t *testing.T) {
	b := slices.Concat(framed([]byte("one")), framed([]byte("two")))
	want := [][]byte{[]byte("one"), []byte("two")}
	told(t, b, want, 22)
	for c := range 256 {
		told(t, append(slices.Clone(b), byte(c)), want, 22)
	}
}

func TestSplitOfNoughts(t *testing.T) {
	for n := range 40 {
		told(t, make([]byte, n), nil, 0)
	}
	r := rand.New(rand.NewSource(13))
	for n := range 40 {
		told(t, append(make([]byte, 4), some(r, n)...), nil, 0)
	}
	told(t, append(make([]byte, 4), framed([]byte("one"))...), nil, 0)
	told(t, append(make([]byte, 8), framed([]byte("one"))...), nil, 0)
	told(t, slices.Concat(framed([]byte("one")), make([]byte, 8), framed([]byte("two"))), [][]byte{[]byte("one")}, 11)
}

func TestSplitOfNothingAndOfFewBytes(t *testing.T) {
	told(t, nil, nil, 0)
	told(t, []byte{}, nil, 0)
	for size := range 9 {
		for _, c := range []byte{0, 1, 2, 9, 0xff} {
			told(t, bytes.Repeat([]byte{c}, size), nil, 0)
		}
		told(t, append([]byte{1, 0, 0, 0}, make([]byte, size)...), nil, 0)
	}
}

// TestSplitOfLengthsThatMayNotBe: the sum is right, and as many bytes as are said are there, or fewer.
func TestSplitOfLengthsThatMayNotBe(t *testing.T) {
	told(t, saying(0, nil), nil, 0)
	told(t, slices.Concat(framed([]byte("one")), saying(0, nil), framed([]byte("two"))), [][]byte{[]byte("one")}, 11)
	for _, n := range []int{2049, 2050, 4096, 65536, 65537, 1 << 20, 1<<24 + 1} {
		told(t, saying(uint32(n), make([]byte, n)), nil, 0)
	}
	for _, n := range []uint32{1 << 8, 1 << 16, 1<<16 + 3, 1 << 24, 1<<24 + 3, 1<<31 - 1, 1 << 31, 1<<31 + 3, 1<<32 - 8, 1<<32 - 5, 1<<32 - 4, 1<<32 - 1} {
		told(t, saying(n, []byte("one")), nil, 0)
		told(t, append(framed([]byte("ab")), saying(n, []byte("one"))...), [][]byte{[]byte("ab")}, 10)
	}
	told(t, saying(2048, make([]byte, 2048)), [][]byte{make([]byte, 2048)}, 2056)
	told(t, saying(1, []byte{7}), [][]byte{{7}}, 9)
}

// TestSplitOfLengthsOfOthers: the sum is right, but the bytes are more or fewer than they say; or the highest byte comes first.
func TestSplitOfLengthsOfOthers(t *testing.T) {
	for _, n := range []uint32{0, 1, 2, 4, 5, 7, 11} {
		told(t, saying(n, []byte("one")), nil, 0)
	}
	told(t, saying(3<<24, []byte("one")), nil, 0)
	told(t, sealed(append([]byte{0, 0, 0, 3}, "one"...)), nil, 0)
	told(t, sealed(append([]byte{3}, "one"...)), nil, 0)
	told(t, sealed(append([]byte{3, 0}, "one"...)), nil, 0)
	told(t, slices.Concat(sealed([]byte{3, 0, 0, 0}), sealed([]byte("one"))), nil, 0)
	told(t, append([]byte{3, 0, 0, 0}, sealed([]byte("one"))...), nil, 0)
	turned := framed([]byte("one"))
	slices.Reverse(turned[7:])
	told(t, turned, nil, 0)
}

// TestNothingIsLookedForBehindAFault: frames that stand further on are none of these bytes'.
func TestNothingIsLookedForBehindAFault(t *testing.T) {
	one, two := framed([]byte("one")), framed([]byte("two"))
	for _, c := range []byte{0, 1, 3, 0xff} {
		told(t, slices.Concat([]byte{c}, one, two), nil, 0)
		told(t, slices.Concat(one, []byte{c}, two), [][]byte{[]byte("one")}, 11)
	}
	bad := slices.Clone(one)
	bad[5] ^= 1
	told(t, slices.Concat(two, bad, two), [][]byte{[]byte("two")}, 11)
	told(t, slices.Concat(bad, one, two), nil, 0)
}

// TestARecordMayBeAFrame: what stands in a record is no frame of the bytes.
func TestARecordMayBeAFrame(t *testing.T) {
	in := slices.Concat(framed([]byte("one")), framed([]byte("two")))
	told(t, framed(in), [][]byte{in}, 30)
	told(t, framed(framed(in)), [][]byte{framed(in)}, 38)
	told(t, framed(in)[4:], [][]byte{[]byte("one"), []byte("two")}, 22)
	told(t, framed(in)[15:], [][]byte{[]byte("two")}, 11)
}

func TestSplitOfAnyBytes(t *testing.T) {
	r := rand.New(rand.NewSource(14))
	for range 3000 {
		b, _ := row(r, 4)
		held(t, b)
		held(t, append(b, some(r, r.Intn(20))...))
		for range min(len(b), 1+r.Intn(3)) {
			b[r.Intn(len(b))] = byte(r.Intn(4))
		}
		held(t, b)
		at := r.Intn(len(b) + 1)
		held(t, b[at:])
		held(t, slices.Insert(slices.Clone(b), at, byte(r.Intn(12))))
		if at < len(b) {
			held(t, slices.Delete(slices.Clone(b), at, at+1))
		}
		held(t, some(r, r.Intn(30)))
	}
}

// TestSplitOfAllBeginnings tries all that the first byte and each other byte of a length may be, in front of bytes that are enough, or not.
func TestSplitOfAllBeginnings(t *testing.T) {
	r := rand.New(rand.NewSource(15))
	behind := some(r, 600)
	for i := range 4 {
		for c := range 256 {
			first := make([]byte, 4)
			first[i] = byte(c)
			n := uint32(c) << (8 * i)
			told(t, append(first, behind...), nil, 0)
			if n >= 1 && n <= 2048 {
				record := some(r, int(n))
				told(t, slices.Concat(saying(n, record), behind), [][]byte{record}, int(n)+8)
			} else {
				told(t, saying(n, behind), nil, 0)
			}
		}
	}
}

// P11.3

func TestSplitOfFramesIsAll(t *testing.T) {
	var b []byte
	var want [][]byte
	for _, record := range records() {
		f, _ := Put(record)
		b, want = append(b, f...), append(want, record)
		told(t, b, want, len(b))
	}
	r := rand.New(rand.NewSource(16))
	for range 2000 {
		b, want := row(r, 9)
		told(t, b, want, len(b))
	}
}

func TestPutOfWhatSplitTells(t *testing.T) {
	r := rand.New(rand.NewSource(17))
	for range 3000 {
		b, _ := row(r, 6)
		b = append(b, some(r, r.Intn(12))...)
		if len(b) > 0 && r.Intn(2) == 0 {
			b[r.Intn(len(b))] ^= byte(1 << r.Intn(8))
		}
		l, n := Split(b)
		var again []byte
		for _, record := range l {
			f, e := Put(record)
			if e != api.OK {
				t.Fatal(e)
			}
			again = append(again, f...)
		}
		if !bytes.Equal(again, b[:n]) {
			t.Fatalf("%x: %x, not %x", b, again, b[:n])
		}
	}
}

func TestWhateverStandsBehind(t *testing.T) {
	r := rand.New(rand.NewSource(18))
	for range 3000 {
		b, _ := row(r, 4)
		b = append(b, some(r, r.Intn(6))...)
		l, n := Split(b)
		more, _ := row(r, 2)
		for _, behind := range [][]byte{some(r, r.Intn(20)), more, make([]byte, r.Intn(20))} {
			k, m := Split(slices.Concat(b, behind))
			if m < n || len(k) < len(l) || !same(k[:len(l)], l) {
				t.Fatalf("%x: %x, %d; with %x behind it: %x, %d", b, l, n, behind, k, m)
			}
		}
	}
}

// P11.4

func TestATornTail(t *testing.T) {
	r := rand.New(rand.NewSource(19))
	for range 12 {
		b, want := row(r, 3)
		more := framed(some(r, 1+r.Intn(30)))
		for k := range more {
			told(t, slices.Concat(b, more[:k]), want, len(b))
			torn := slices.Concat(b, more[:k+1])
			last := torn[len(torn)-1]
			for c := range 256 {
				if byte(c) != last {
					torn[len(torn)-1] = byte(c)
					told(t, torn, want, len(b))
				}
			}
		}
		told(t, slices.Concat(b, more), append(want, more[4:len(more)-4]), len(b)+len(more))
	}
}

func TestATornTailOfLongRecords(t *testing.T) {
	r := rand.New(rand.NewSource(20))
	for _, size := range []int{255, 256, 257, 2047, 2048} {
		b, want := row(r, 2)
		more := framed(some(r, size))
		for k := range more {
			told(t, slices.Concat(b, more[:k]), want, len(b))
			torn := slices.Concat(b, more[:k+1])
			torn[len(torn)-1] ^= byte(1 + r.Intn(255))
			told(t, torn, want, len(b))
		}
	}
}

// TestOneByteChanged: a frame of which a byte is another one is none, whatever stands behind it, unless the length's change makes it another one (it does not here).
func TestOneByteChanged(t *testing.T) {
	one, two := framed([]byte("one")), framed([]byte("two"))
	for i := range one {
		for by := 1; by < 256; by++ {
			bad := slices.Clone(one)
			bad[i] ^= byte(by)
			told(t, slices.Concat(bad, two), nil, 0)
			told(t, slices.Concat(two, bad, one), [][]byte{[]byte("two")}, 11)
		}
	}
}

// The rules of all layers.

func TestWhatIsHandedInIsOnlyRead(t *testing.T) {
	record := append(make([]byte, 0, 64), "one"...)
	f, _ := Put(record)
	if string(record) != "one" || !bytes.Equal(record[:64], append([]byte("one"), make([]byte, 61)...)) {
		t.Fatalf("%x", record[:64])
	}
	b := append(f, framed([]byte("two"))...)
	before := slices.Clone(b)
	Split(b)
	Split(b[:15])
	if !bytes.Equal(b, before) {
		t.Fatalf("%x, not %x", b, before)
	}
}

func TestWhatIsAnsweredIsNewMemory(t *testing.T) {
	record := []byte("one")
	f, _ := Put(record)
	clear(record)
	if !bytes.Equal(f, framed([]byte("one"))) {
		t.Fatalf("%x", f)
	}
	b := slices.Concat(framed([]byte("one")), framed([]byte("two")), framed([]byte("three")))
	l, _ := Split(b)
	clear(b)
	want := [][]byte{[]byte("one"), []byte("two"), []byte("three")}
	if !same(l, want) {
		t.Fatalf("%q", l)
	}
	for i := range l {
		_ = append(l[i], "more than there is, of anything"...)
		whole := l[i][:cap(l[i])]
		for j := range whole {
			whole[j] = '!'
		}
		want[i] = []byte("!!!!!"[:len(l[i])])
		if !same(l, want) {
			t.Fatalf("%q, not %q", l, want)
		}
	}
}

func TestFramesMayBeLeft(t *testing.T) {
	b := slices.Concat(framed([]byte("one")), framed([]byte("two")))
	n := 0
	for record, end := range frames(b) {
		n++
		if string(record) != "one" || end != 11 {
			t.Fatalf("%q, %d", record, end)
		}
		break
	}
	if n != 1 {
		t.Fatal(n)
	}
}
