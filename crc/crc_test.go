package crc

import (
	"bytes"
	"hash/crc32"
	"math/rand"
	"slices"
	"testing"

	"pneumatic/api"
)

// added is what the chapter adds to the register if the bit that fell out was 1.
const added = 0x82f63b78

// slow answers b's sum by the words of the chapter alone, bit by bit.
func slow(b []byte) uint32 {
	register := uint32(0xffffffff)
	for _, c := range b {
		register ^= uint32(c)
		for range 8 {
			out := register & 1
			register >>= 1
			if out == 1 {
				register ^= added
			}
		}
	}
	return ^register
}

// framed answers b's frame by the words of the chapter alone.
func framed(b []byte) []byte {
	n := slow(b)
	return append(slices.Clone(b), byte(n), byte(n/0x100), byte(n/0x10000), byte(n/0x1000000))
}

// summing answers four bytes whose sum it is: the register is gone back from its end, bit by bit, and what it then is was added.
func summing(sum uint32) []byte {
	register := ^sum
	for range 32 {
		out := register >> 31 // the bit that added has highest, and that no other step leaves there
		if out == 1 {
			register ^= added
		}
		register = register<<1 | out
	}
	register = ^register
	return []byte{byte(register), byte(register >> 8), byte(register >> 16), byte(register >> 24)}
}

// some answers size bytes.
func some(r *rand.Rand, size int) []byte {
	b := make([]byte, size)
	r.Read(b)
	return b
}

// samples answers rows of bytes: none, all of one byte, noughts, full ones, and others of many lengths.
func samples() [][]byte {
	l := [][]byte{nil, {}, []byte("123456789"), []byte("hello, world"), {0, 1, 2, 3, 4, 5, 6, 7}}
	for c := range 256 {
		l = append(l, []byte{byte(c)})
	}
	r := rand.New(rand.NewSource(9))
	for size := range 70 {
		l = append(l, make([]byte, size), bytes.Repeat([]byte{0xff}, size), some(r, size), some(r, size))
	}
	return append(l, some(r, 2048), some(r, 65537))
}

// sums answers sums of which something stands out, and others.
func sums() []uint32 {
	l := []uint32{0, 0xffffffff, added, ^uint32(added), 0xe3069283, 0xf0f0f0f0}
	for bit := range 32 {
		l = append(l, 1<<bit, ^uint32(1<<bit))
	}
	r := rand.New(rand.NewSource(91))
	for range 300 {
		l = append(l, r.Uint32())
	}
	return l
}

// P9.1

func TestSumsOfTheChapterAndOthersKnown(t *testing.T) {
	up, down := make([]byte, 32), make([]byte, 32)
	for i := range up {
		up[i], down[i] = byte(i), byte(31-i)
	}
	for _, x := range []struct {
		b    []byte
		want uint32
	}{
		{nil, 0}, {[]byte{}, 0}, {[]byte("123456789"), 0xe3069283}, {[]byte("a"), 0xc1d04330}, {[]byte{0}, 0x527d5351},
		{make([]byte, 32), 0x8a9136aa}, {bytes.Repeat([]byte{0xff}, 32), 0x62a8ab43}, {up, 0x46dd794e}, {down, 0x113fdb5c},
	} {
		if n := Sum(x.b); n != x.want {
			t.Errorf("Sum(%q): %08x, not %08x", x.b, n, x.want)
		}
	}
}

func TestSumIsTheChaptersBitByBit(t *testing.T) {
	table := crc32.MakeTable(crc32.Castagnoli)
	for _, b := range samples() {
		if n, want, known := Sum(b), slow(b), crc32.Checksum(b, table); n != want || n != known {
			t.Fatalf("Sum(%x): %08x, not %08x, %08x", b, n, want, known)
		}
	}
	for n := range 1 << 16 {
		if b := []byte{byte(n), byte(n >> 8)}; Sum(b) != slow(b) {
			t.Fatalf("Sum(%x): %08x, not %08x", b, Sum(b), slow(b))
		}
	}
}

func TestAnySumGoesOn(t *testing.T) {
	for _, sum := range sums() {
		head := summing(sum)
		if n := Sum(head); n != sum || slow(head) != sum {
			t.Fatalf("Sum(%x): %08x, not %08x", head, n, sum)
		}
		for _, b := range samples()[:400] {
			if n, want := Extend(sum, b), slow(slices.Concat(head, b)); n != want {
				t.Fatalf("Extend(%08x, %x): %08x, not %08x", sum, b, n, want)
			}
		}
	}
}

func TestExtendOfSumsAllOfOneBit(t *testing.T) {
	for _, x := range []struct {
		sum  uint32
		b    []byte
		want uint32
	}{
		{0, nil, 0}, {0xffffffff, nil, 0xffffffff}, {0xffffffff, []byte{}, 0xffffffff}, {0xe3069283, nil, 0xe3069283},
		{0, []byte{0}, 0x527d5351}, {0, []byte("123456789"), 0xe3069283}, {0xffffffff, []byte{0}, 0xffffffff}, {0xffffffff, make([]byte, 1000), 0xffffffff},
	} {
		if n := Extend(x.sum, x.b); n != x.want {
			t.Errorf("Extend(%08x, %x): %08x, not %08x", x.sum, x.b, n, x.want)
		}
	}
}

// P9.2

func TestPut(t *testing.T) {
	for _, x := range []struct{ b, want string }{
		{"", "\x00\x00\x00\x00"}, {"123456789", "123456789\x83\x92\x06\xe3"}, {"a", "a\x30\x43\xd0\xc1"}, {"\x00", "\x00\x51\x53\x7d\x52"},
	} {
		if f := Put([]byte(x.b)); string(f) != x.want {
			t.Errorf("Put(%q): %x, not %x", x.b, f, x.want)
		}
	}
	if f := Put(nil); !bytes.Equal(f, make([]byte, 4)) {
		t.Errorf("Put(nil): %x", f)
	}
	for _, b := range samples() {
		if f := Put(b); !bytes.Equal(f, framed(b)) {
			t.Fatalf("Put(%x): %x, not %x", b, f, framed(b))
		}
	}
}

// told fails unless Take(b) answers what a frame of want is to be answered.
func told(t *testing.T, b, want []byte) {
	t.Helper()
	if got, err := Take(b); err != api.OK || !bytes.Equal(got, want) {
		t.Fatalf("Take(%x): %x, %d, not %x", b, got, err, want)
	}
}

// refused fails unless Take(b) answers that error, and nothing beside it.
func refused(t *testing.T, b []byte, want api.Errno) {
	t.Helper()
	if got, err := Take(b); err != want || len(got) != 0 {
		t.Fatalf("Take(%x): %x, %d, not %d", b, got, err, want)
	}
}

func TestTake(t *testing.T) {
	told(t, []byte("123456789\x83\x92\x06\xe3"), []byte("123456789"))
	told(t, []byte{0, 0, 0, 0}, nil)
	refused(t, []byte("123456789\x83\x92\x06\xe4"), api.ErrForm)
	refused(t, []byte("123456789\xe3\x06\x92\x83"), api.ErrForm)
	refused(t, []byte("\x83\x92\x06\xe3123456789"), api.ErrForm)
	refused(t, []byte("123456789"), api.ErrForm)
	for _, b := range samples() {
		told(t, framed(b), b)
	}
}

func TestTakeOfFewerThanASum(t *testing.T) {
	refused(t, nil, api.ErrShort)
	for _, c := range []byte{0x00, 0x01, 0x51, 0xff} {
		for size := range 4 {
			refused(t, bytes.Repeat([]byte{c}, size), api.ErrShort)
		}
	}
	for size := range 4 {
		refused(t, framed([]byte("123456789"))[:size], api.ErrShort)
		refused(t, framed(nil)[:size], api.ErrShort)
	}
}

func TestTakeOfFourBytes(t *testing.T) {
	for i := range 4 {
		for c := 1; c < 256; c++ {
			b := make([]byte, 4)
			b[i] = byte(c)
			refused(t, b, api.ErrForm)
		}
	}
	refused(t, []byte{0xff, 0xff, 0xff, 0xff}, api.ErrForm)
	refused(t, []byte("1234"), api.ErrForm)
	refused(t, framed([]byte("1234"))[:4], api.ErrForm)
	refused(t, framed([]byte("1234"))[4:], api.ErrForm)
}

// TestTakeOfMoreAndLess: the four bytes at the end are then others, or stand behind others.
func TestTakeOfMoreAndLess(t *testing.T) {
	for _, b := range samples() {
		f := framed(b)
		if len(f) > 100 {
			f = framed(b[:60])
		}
		for c := range 256 {
			held(t, append(slices.Clone(f), byte(c)))
			held(t, append([]byte{byte(c)}, f...))
		}
		for size := range f {
			held(t, f[:size])
			held(t, f[size:])
		}
	}
	f := framed([]byte("123456789"))
	for c := range 256 {
		refused(t, append(slices.Clone(f), byte(c)), api.ErrForm)
		refused(t, append([]byte{0, 0, 0, 0}, byte(c)), api.ErrForm)
	}
	refused(t, f[:len(f)-1], api.ErrForm)
	refused(t, f[1:], api.ErrForm)
	refused(t, append(slices.Clone(f), f...), api.ErrForm)
	refused(t, []byte{0, 0, 0}, api.ErrShort)
}

// held fails unless Take(b) answers what the chapter asks, by its words alone.
func held(t *testing.T, b []byte) {
	t.Helper()
	end := len(b) - 4
	switch {
	case end < 0:
		refused(t, b, api.ErrShort)
	case !bytes.Equal(framed(b[:end]), b):
		refused(t, b, api.ErrForm)
	default:
		told(t, b, b[:end])
	}
}

func TestTakeOfAnyBytes(t *testing.T) {
	r := rand.New(rand.NewSource(92))
	for range 50000 {
		b := some(r, r.Intn(40))
		held(t, b)
		if len(b) >= 4 {
			copy(b[len(b)-4:], framed(b[:len(b)-4])[len(b)-4:])
			told(t, b, b[:len(b)-4])
			held(t, bytes.ToUpper(b))
		}
	}
}

// P9.3

func TestExtendInPartsIsSumOfAll(t *testing.T) {
	for _, b := range samples() {
		want := slow(b)
		for k := 0; k <= len(b); k += 1 + len(b)/50 {
			if n := Extend(Sum(b[:k]), b[k:]); n != want {
				t.Fatalf("%x, parted at %d: %08x, not %08x", b, k, n, want)
			}
		}
	}
	r := rand.New(rand.NewSource(93))
	for range 2000 {
		b := some(r, r.Intn(200))
		if n := inParts(r, b); n != slow(b) {
			t.Fatalf("%x: %08x, not %08x", b, n, slow(b))
		}
	}
}

// inParts answers b's sum, gone on by parts of any lengths, many of them empty.
func inParts(r *rand.Rand, b []byte) uint32 {
	n := Sum(nil)
	for len(b) > 0 {
		size := r.Intn(min(len(b), 9) + 1)
		n = Extend(n, b[:size])
		b = b[size:]
		n = Extend(Extend(n, nil), []byte{})
	}
	return n
}

func TestPutAndTakeBack(t *testing.T) {
	for _, b := range samples() {
		f := Put(b)
		told(t, f, b)
		told(t, Put(f), f)
		back, _ := Take(framed(b))
		if !bytes.Equal(Put(back), framed(b)) {
			t.Fatalf("Put of what Take tells of %x: %x", framed(b), Put(back))
		}
	}
}

// P9.4

// turn turns that bit: bits are in a row as the register meets them, those of a byte from the lowest one on.
func turn(b []byte, bit int) { b[bit/8] ^= 1 << (bit % 8) }

// tears hands do every stretch of b that begins at a bit and has 1 to 32 bits, the first and the last of them turned: only these, all, and any between.
func tears(r *rand.Rand, b []byte, do func(torn []byte, from, size int)) {
	for from := range 8 * len(b) {
		for size := 1; size <= 32 && from+size <= 8*len(b); size++ {
			for _, between := range []uint32{0, 0xffffffff, r.Uint32(), r.Uint32()} {
				torn := slices.Clone(b)
				turn(torn, from)
				if size > 1 {
					turn(torn, from+size-1)
				}
				for i := 1; i < size-1; i++ {
					if between>>i&1 == 1 {
						turn(torn, from+i)
					}
				}
				do(torn, from, size)
			}
		}
	}
}

func TestTornBytesHaveAnotherSum(t *testing.T) {
	r := rand.New(rand.NewSource(94))
	for size := 1; size < 40; size++ {
		for _, b := range [][]byte{make([]byte, size), bytes.Repeat([]byte{0xff}, size), some(r, size)} {
			sum := Sum(b)
			tears(r, b, func(torn []byte, from, bits int) {
				if Sum(torn) == sum {
					t.Fatalf("%x, %d bits turned from %d on: %x has the sum %08x too", b, bits, from, torn, sum)
				}
			})
		}
	}
}

// TestNoStretchOfBitsGoesUnseen: of 32 bits in a row, what each of them changes of the sum is no sum of what others change, so no choice of them changes nothing.
func TestNoStretchOfBitsGoesUnseen(t *testing.T) {
	r := rand.New(rand.NewSource(99))
	for size := 4; size < 20; size++ {
		b := some(r, size)
		for from := 0; from+32 <= 8*size; from++ {
			var apart []uint32
			for bit := from; bit < from+32; bit++ {
				torn := slices.Clone(b)
				turn(torn, bit)
				apart = append(apart, Sum(torn)^Sum(b))
			}
			if !independent(apart) {
				t.Fatalf("%x: some of the bits from %d on turned change nothing", b, from)
			}
		}
	}
}

// independent tells whether no choice of these, added, is 0.
func independent(l []uint32) bool {
	for i, n := range l {
		if n == 0 {
			return false
		}
		lowest := n & -n
		for j := range l[i+1:] {
			if l[i+1+j]&lowest != 0 {
				l[i+1+j] ^= n
			}
		}
	}
	return true
}

// TestAStretchOfTheFirstAndTheLastBits tries all that a stretch of 16 bits may be, at both ends of bytes and of long ones, and each single bit.
func TestAStretchOfTheFirstAndTheLastBits(t *testing.T) {
	r := rand.New(rand.NewSource(95))
	for _, size := range []int{2, 3, 4, 5, 300} {
		b := some(r, size)
		sum := Sum(b)
		seen := map[uint32]bool{}
		for n := 1; n < 1<<16; n++ {
			first, last := slices.Clone(b), slices.Clone(b)
			first[0], first[1] = b[0]^byte(n), b[1]^byte(n>>8)
			last[size-2], last[size-1] = b[size-2]^byte(n), b[size-1]^byte(n>>8)
			if Sum(first) == sum || Sum(last) == sum || seen[Sum(first)] {
				t.Fatalf("%x, turned by %04x, has no other sum", b, n)
			}
			seen[Sum(first)] = true
		}
	}
	b := some(r, 5000)
	sum := Sum(b)
	for bit := 0; bit < 8*len(b); bit += 13 {
		turn(b, bit)
		if Sum(b) == sum {
			t.Fatalf("bit %d turned: the same sum", bit)
		}
		turn(b, bit)
	}
}

func TestAFrameWithAnotherByteIsNone(t *testing.T) {
	r := rand.New(rand.NewSource(96))
	for _, b := range [][]byte{nil, {0}, {0xff}, []byte("a"), []byte("123456789"), make([]byte, 20), some(r, 40)} {
		f := Put(b)
		for i := range f {
			was := f[i]
			for c := range 256 {
				if f[i] = byte(c); f[i] != was {
					refused(t, f, api.ErrForm)
				}
			}
			f[i] = was
		}
		told(t, f, b)
	}
}

// P9.5

func TestSumIsLinear(t *testing.T) {
	r := rand.New(rand.NewSource(97))
	for size := range 300 {
		nought := make([]byte, size)
		full := bytes.Repeat([]byte{0xff}, size)
		one, other, third := some(r, size), some(r, size), some(r, size)
		linear(t, one, other, third)
		linear(t, nought, one, other)
		linear(t, full, one, nought)
		linear(t, one, one, other)
		linear(t, full, full, full)
	}
	linear(t, nil, []byte{}, nil)
}

// linear fails unless the sum of three texts of one length, added, is their sums added.
func linear(t *testing.T, a, b, c []byte) {
	t.Helper()
	all := slices.Clone(a)
	for i := range all {
		all[i] ^= b[i] ^ c[i]
	}
	if n, want := Sum(all), Sum(a)^Sum(b)^Sum(c); n != want {
		t.Fatalf("%x, %x, %x: %08x, not %08x", a, b, c, n, want)
	}
}

// What is handed in and what is told (R3)

func TestWhatIsHandedInStays(t *testing.T) {
	r := rand.New(rand.NewSource(98))
	for size := range 60 {
		whole := framed(some(r, size))
		whole = append(whole, some(r, 30)...)
		was := slices.Clone(whole)
		b := whole[:size+4] // with room behind it, which is not the call's
		for _, part := range [][]byte{b, b[:size], b[:size+3], b[:0]} {
			Sum(part)
			Extend(7, part)
			Put(part)
			Take(part)
			if !bytes.Equal(whole, was) {
				t.Fatalf("%x was changed to %x", was, whole)
			}
		}
	}
}

// spoil changes all of an answer, and what room it has behind it.
func spoil(b []byte) {
	b = b[:cap(b)]
	for i := range b {
		b[i] ^= 0xa5
	}
}

func TestWhatIsToldIsNewMemory(t *testing.T) {
	for size := range 60 {
		body := bytes.Repeat([]byte{'.'}, size)
		whole := append(framed(body), "behind it is more"...)
		was := slices.Clone(whole)
		b := whole[:size+4]
		spoil(Put(b[:size]))
		spoil(Put(b))
		got, err := Take(b)
		if err != api.OK {
			t.Fatalf("Take(%x): %d", b, err)
		}
		spoil(got)
		if !bytes.Equal(whole, was) {
			t.Fatalf("%x changes with what is told, to %x", was, whole)
		}
		frame, back := Put(b[:size]), []byte(nil)
		back, _ = Take(b)
		spoil(whole)
		if !bytes.Equal(frame, was[:size+4]) || !bytes.Equal(back, body) {
			t.Fatalf("what is told changes with what was handed in: %x, %x", frame, back)
		}
	}
}

func TestTwoAnswersOfOneThing(t *testing.T) {
	b := []byte("123456789")
	one, other := Put(b), Put(b)
	spoil(one)
	if !bytes.Equal(other, framed(b)) {
		t.Errorf("two frames of the same bytes share memory: %x", other)
	}
	x, _ := Take(other)
	y, _ := Take(other)
	spoil(x)
	if !bytes.Equal(y, b) {
		t.Errorf("bytes taken twice of the same frame share memory: %x", y)
	}
	if Sum(b) != 0xe3069283 || Sum(b) != 0xe3069283 || Extend(0, b) != Sum(b) {
		t.Errorf("a call hangs on the one ahead of it")
	}
}
