package wire

import (
	"bytes"
	"encoding/binary"
	"math"
	"math/rand"
	"slices"
	"testing"

	"pneumatic/api"
)

// numbers answers each number up to some thousands, and those about each power of two: where groups and their bytes begin and end.
func numbers() []uint64 {
	var l []uint64
	for n := range uint64(20000) {
		l = append(l, n)
	}
	for bit := range 64 {
		for d := range uint64(5) {
			l = append(l, 1<<bit+d-2)
		}
	}
	l = append(l, math.MaxUint64, math.MaxUint64-1, 1<<63|1<<7, 0x8040201008040201, 0x7f<<56)
	slices.Sort(l)
	return slices.Compact(l)
}

// signed answers signed numbers of both signs, the greatest and the least among them.
func signed() []int64 {
	var l []int64
	for _, n := range numbers() {
		l = append(l, int64(n), -int64(n))
	}
	slices.Sort(l)
	return slices.Compact(l)
}

// hex makes bytes of a text of digits to the base 16, for tables.
func hex(s string) []byte {
	digit := func(c byte) byte { return byte(bytes.IndexByte([]byte("0123456789abcdef"), c)) }
	b := []byte{}
	for i := 0; i < len(s); i += 2 {
		b = append(b, digit(s[i])<<4|digit(s[i+1]))
	}
	return b
}

// begins answers the number and the length of the form with which b begins, by the words of the chapter alone; length 0, if it begins with none.
func begins(b []byte) (uint64, int) {
	for k := 1; k <= len(b); k++ {
		n, size := binary.Uvarint(b[:k])
		if size == k && bytes.Equal(binary.AppendUvarint(nil, n), b[:k]) {
			return n, k
		}
	}
	return 0, 0
}

// asked answers what Num(math.MaxUint64) of a reader of b must tell, and how much it reads.
// What is a beginning of forms, and none, can be made one by a last byte 1.
func asked(b []byte) (uint64, int, api.Errno) {
	n, size := begins(b)
	if size > 0 {
		return n, size, api.OK
	}
	if _, size := begins(append(slices.Clone(b), 1)); size > 0 {
		return 0, 0, api.ErrShort
	}
	return 0, 0, api.ErrForm
}

// rows hands every row of at most most of these bytes to do.
func rows(some []byte, most int, do func([]byte)) {
	var walk func(b []byte)
	walk = func(b []byte) {
		do(b)
		for _, c := range some {
			if len(b) < most {
				walk(append(b[:len(b):len(b)], c))
			}
		}
	}
	walk(nil)
}

// rowsOfAll hands many rows of bytes to do: all short ones, and longer ones of bytes in which forms go on or end.
func rowsOfAll(do func([]byte)) {
	var all []byte
	for c := range 256 {
		all = append(all, byte(c))
	}
	rows(all, 2, do)
	rows([]byte{0x00, 0x01, 0x02, 0x7f, 0x80, 0x81, 0xff}, 5, do)
	for _, c := range []byte{0x80, 0x81, 0xff} {
		for n := range 13 {
			rows([]byte{0x00, 0x01, 0x02, 0x7f, 0x80, 0xff}, 3, func(end []byte) {
				do(append(bytes.Repeat([]byte{c}, n), end...))
			})
		}
	}
}

func TestNumLays(t *testing.T) {
	for _, x := range []struct {
		n    uint64
		want string
	}{
		{0, "00"}, {1, "01"}, {127, "7f"}, {128, "8001"}, {129, "8101"}, {255, "ff01"}, {256, "8002"}, {300, "ac02"},
		{1<<14 - 1, "ff7f"}, {1 << 14, "808001"}, {1<<21 - 1, "ffff7f"}, {1 << 21, "80808001"}, {1 << 40, "808080808020"},
		{1<<32 - 1, "ffffffff0f"}, {1<<63 - 1, "ffffffffffffffff7f"}, {1 << 63, "80808080808080808001"}, {math.MaxUint64, "ffffffffffffffffff01"},
	} {
		if b := Num(nil, x.n); !bytes.Equal(b, hex(x.want)) {
			t.Errorf("%d: %x, not %s", x.n, b, x.want)
		}
	}
	for _, n := range numbers() {
		if b := Num(nil, n); !bytes.Equal(b, binary.AppendUvarint(nil, n)) {
			t.Fatalf("%d: %x", n, b)
		}
	}
}

func TestIntLays(t *testing.T) {
	for _, x := range []struct {
		n    int64
		want string
	}{
		{0, "00"}, {-1, "01"}, {1, "02"}, {-2, "03"}, {63, "7e"}, {-64, "7f"}, {64, "8001"}, {-65, "8101"}, {150, "ac02"},
		{1 << 40, "808080808040"}, {math.MaxInt64, "feffffffffffffffff01"}, {math.MinInt64, "ffffffffffffffffff01"},
		{-1 << 62, "ffffffffffffffff7f"}, {1 << 62, "80808080808080808001"},
	} {
		if b := Int(nil, x.n); !bytes.Equal(b, hex(x.want)) {
			t.Errorf("%d: %x, not %s", x.n, b, x.want)
		}
	}
	for _, n := range signed() {
		if b := Int(nil, n); !bytes.Equal(b, binary.AppendVarint(nil, n)) {
			t.Fatalf("%d: %x", n, b)
		}
	}
}

func TestBytesLays(t *testing.T) {
	for _, x := range []struct{ s, want string }{
		{"", "00"}, {"ab", "026162"}, {"\x00", "0100"}, {"\x80", "0180"}, {"\xff\x00", "02ff00"}, {"\u00e9", "02c3a9"},
	} {
		if b := Bytes(nil, []byte(x.s)); !bytes.Equal(b, hex(x.want)) {
			t.Errorf("%q: %x, not %s", x.s, b, x.want)
		}
	}
	if b := Bytes([]byte{}, nil); !bytes.Equal(b, []byte{0}) {
		t.Errorf("of none: %x", b)
	}
	for _, size := range []int{1, 126, 127, 128, 129, 255, 256, 16383, 16384, 1 << 20} {
		s := bytes.Repeat([]byte{0xa5}, size)
		if b := Bytes([]byte("x"), s); !bytes.Equal(b, append(binary.AppendUvarint([]byte("x"), uint64(size)), s...)) {
			t.Errorf("%d bytes: %d of them", size, len(b))
		}
	}
}

// layers answers each way to lay something behind b.
func layers() map[string]func(b []byte) []byte {
	return map[string]func(b []byte) []byte{
		"Num":        func(b []byte) []byte { return Num(b, 300) },
		"Num great":  func(b []byte) []byte { return Num(b, math.MaxUint64) },
		"Int":        func(b []byte) []byte { return Int(b, -65) },
		"Bytes":      func(b []byte) []byte { return Bytes(b, []byte("ab")) },
		"Bytes none": func(b []byte) []byte { return Bytes(b, nil) },
	}
}

func TestLaidIsNewMemory(t *testing.T) {
	for name, put := range layers() {
		form := put(nil)
		for size := range 40 {
			whole := bytes.Repeat([]byte{'.'}, size+30)
			b := whole[:size] // with room behind it, which is not the call's
			got := put(b)
			if !bytes.Equal(got, append(bytes.Repeat([]byte{'.'}, size), form...)) {
				t.Fatalf("%s behind %d bytes: %x", name, size, got)
			}
			for i := range got {
				got[i] = '!'
			}
			got = append(got, "!!!!"...)
			if !bytes.Equal(whole, bytes.Repeat([]byte{'.'}, size+30)) {
				t.Fatalf("%s behind %d bytes: %q was changed", name, size, whole)
			}
		}
	}
	s := []byte("ab")
	b := Bytes(nil, s)
	if s[0] = 'x'; !bytes.Equal(b, []byte("\x02ab")) {
		t.Errorf("laid bytes change with those given: %q", b)
	}
	if b[1], b[2] = 'y', 'z'; string(s) != "xb" {
		t.Errorf("given bytes change with those laid: %q", s)
	}
	both := make([]byte, 4, 64)
	copy(both, "abcd")
	if got := Bytes(both[:2], both); string(got) != "ab\x04abcd" || string(both) != "abcd" {
		t.Errorf("of bytes that share: %q, %q", got, both)
	}
}

func TestTwoFormsBehindOneBeginning(t *testing.T) {
	b := Num(make([]byte, 0, 64), 1)
	one, other := Num(b, 2), Bytes(b, []byte("xyz"))
	if !bytes.Equal(b, []byte{1}) || !bytes.Equal(one, []byte{1, 2}) || string(other) != "\x01\x03xyz" {
		t.Errorf("%x, %x, %x", b, one, other)
	}
}

func TestNewLivesApart(t *testing.T) {
	b := []byte("\x02ab\x07")
	r := New(b)
	copy(b, "\xff\xff\xff\xff")
	if s, err := r.Bytes(2); string(s) != "ab" || err != api.OK {
		t.Errorf("%q, %d", s, err)
	}
	if n, err := r.Num(7); n != 7 || err != api.OK {
		t.Errorf("%d, %d", n, err)
	}
	if string(b) != "\xff\xff\xff\xff" {
		t.Errorf("the bytes were changed: %x", b)
	}
	b = []byte("\x02ab")
	one, other := New(b), New(b)
	one.Bytes(2)
	if one.Left() != 0 || other.Left() != 3 || string(b) != "\x02ab" {
		t.Errorf("two readers of the same bytes: %d, %d left of %x", one.Left(), other.Left(), b)
	}
}

func TestLeftAndEnd(t *testing.T) {
	for _, b := range [][]byte{nil, {}, {0}, {0x80}, {1, 2, 3}, make([]byte, 1000)} {
		r := New(b)
		want := api.OK
		if len(b) > 0 {
			want = api.ErrLong
		}
		for range 2 {
			if r.Left() != len(b) || r.End() != want {
				t.Errorf("%d bytes: %d left, %d", len(b), r.Left(), r.End())
			}
		}
	}
	r := New([]byte("\x05\x80\x01\x02ab\x00"))
	for i, step := range []struct {
		do   func() api.Errno
		left int
	}{
		{func() api.Errno { _, err := r.Num(9); return err }, 6},
		{func() api.Errno { _, err := r.Int(); return err }, 4},
		{func() api.Errno { _, err := r.Bytes(9); return err }, 1},
	} {
		if err := step.do(); err != api.OK || r.Left() != step.left || r.End() != api.ErrLong {
			t.Errorf("step %d: %d, %d left, %d", i, err, r.Left(), r.End())
		}
	}
	if s, err := r.Bytes(0); len(s) != 0 || err != api.OK || r.Left() != 0 || r.End() != api.OK {
		t.Errorf("the last one: %x, %d, %d left, %d", s, err, r.Left(), r.End())
	}
}

func TestReaderThatNewDidNotMake(t *testing.T) {
	for name, r := range map[string]*Reader{"none": nil, "an empty one": {}, "a new one": new(Reader)} {
		for range 2 {
			if n, err := r.Num(math.MaxUint64); n != 0 || err != api.ErrNil {
				t.Errorf("%s: Num %d, %d", name, n, err)
			}
			if n, err := r.Num(0); n != 0 || err != api.ErrNil {
				t.Errorf("%s: Num(0) %d, %d", name, n, err)
			}
			if n, err := r.Int(); n != 0 || err != api.ErrNil {
				t.Errorf("%s: Int %d, %d", name, n, err)
			}
			for _, most := range []int{math.MinInt, -1, 0, 1, math.MaxInt} {
				if s, err := r.Bytes(most); len(s) != 0 || err != api.ErrNil {
					t.Errorf("%s: Bytes(%d) %x, %d", name, most, s, err)
				}
			}
			if r.Left() != 0 || r.End() != api.ErrNil {
				t.Errorf("%s: %d left, %d", name, r.Left(), r.End())
			}
		}
	}
}

func TestNumReads(t *testing.T) {
	for _, x := range []struct {
		in   string
		most uint64
		n    uint64
		err  api.Errno
	}{
		{"00", 0, 0, api.OK}, {"7f", 127, 127, api.OK}, {"8001", 128, 128, api.OK}, {"ac02", 300, 300, api.OK}, {"ac02", math.MaxUint64, 300, api.OK},
		{"ffffffffffffffffff01", math.MaxUint64, math.MaxUint64, api.OK}, {"80808080808080808001", 1 << 63, 1 << 63, api.OK},
		{"", 9, 0, api.ErrShort}, {"80", 9, 0, api.ErrShort}, {"80", 0, 0, api.ErrShort}, {"ff", 0, 0, api.ErrShort}, {"8080", 9, 0, api.ErrShort},
		{"ffffffffffffffffff", 9, 0, api.ErrShort}, {"808080808080808080", 9, 0, api.ErrShort},
		{"8000", 9, 0, api.ErrForm}, {"8000", 0, 0, api.ErrForm}, {"ff00", 9, 0, api.ErrForm}, {"808000", 9, 0, api.ErrForm}, {"80000580", 9, 0, api.ErrForm},
		{"80808080808080808000", 9, 0, api.ErrForm}, {"ffffffffffffffffff00", 9, 0, api.ErrForm}, {"ffffffffffffffffff02", math.MaxUint64, 0, api.ErrForm},
		{"ffffffffffffffffff7f", math.MaxUint64, 0, api.ErrForm}, {"80808080808080808080", 9, 0, api.ErrForm}, {"ffffffffffffffffffff", 9, 0, api.ErrForm},
		{"ffffffffffffffffff81", 9, 0, api.ErrForm}, {"8080808080808080808001", 9, 0, api.ErrForm}, {"8080808080808080808100", 9, 0, api.ErrForm},
		{"05", 4, 0, api.ErrLong}, {"05", 5, 5, api.OK}, {"05", 0, 0, api.ErrLong}, {"01", 0, 0, api.ErrLong}, {"8001", 127, 0, api.ErrLong}, {"ac02", 299, 0, api.ErrLong},
		{"ffffffffffffffffff01", math.MaxUint64 - 1, 0, api.ErrLong}, {"80808080808080808001", math.MaxInt64, 0, api.ErrLong},
	} {
		r := New(hex(x.in))
		before := r.Left()
		n, err := r.Num(x.most)
		if n != x.n || err != x.err {
			t.Errorf("%s, %d: %d, %d, not %d, %d", x.in, x.most, n, err, x.n, x.err)
		}
		want := 0
		if err != api.OK {
			want = before
		}
		if r.Left() != want {
			t.Errorf("%s, %d: %d are left", x.in, x.most, r.Left())
		}
	}
}

func TestNumOfAnyBytes(t *testing.T) {
	seen := map[api.Errno]int{}
	rowsOfAll(func(b []byte) {
		want, size, wantErr := asked(b)
		seen[wantErr]++
		r := New(b)
		n, err := r.Num(math.MaxUint64)
		if n != want || err != wantErr || r.Left() != len(b)-size {
			t.Fatalf("%x: %d, %d, %d left, not %d, %d", b, n, err, r.Left(), want, wantErr)
		}
		if wantErr != api.OK {
			if _, err := New(b).Num(0); err != wantErr {
				t.Fatalf("%x: %d ahead of %d", b, err, wantErr)
			}
			return
		}
		r = New(b)
		if n, err := r.Num(want); n != want || err != api.OK {
			t.Fatalf("%x: of most %d: %d, %d", b, want, n, err)
		}
		if r = New(b); want > 0 {
			if n, err := r.Num(want - 1); n != 0 || err != api.ErrLong || r.Left() != len(b) {
				t.Fatalf("%x: of most %d: %d, %d, %d left", b, want-1, n, err, r.Left())
			}
		}
	})
	if seen[api.OK] < 100 || seen[api.ErrShort] < 100 || seen[api.ErrForm] < 100 {
		t.Errorf("too few of a kind: %v", seen)
	}
}

func TestIntReads(t *testing.T) {
	for _, x := range []struct {
		in  string
		n   int64
		err api.Errno
	}{
		{"00", 0, api.OK}, {"01", -1, api.OK}, {"02", 1, api.OK}, {"03", -2, api.OK}, {"7e", 63, api.OK}, {"7f", -64, api.OK}, {"8001", 64, api.OK}, {"8101", -65, api.OK},
		{"feffffffffffffffff01", math.MaxInt64, api.OK}, {"ffffffffffffffffff01", math.MinInt64, api.OK},
		{"", 0, api.ErrShort}, {"81", 0, api.ErrShort}, {"ffffffffffffffffff", 0, api.ErrShort},
		{"8100", 0, api.ErrForm}, {"8000", 0, api.ErrForm}, {"ffffffffffffffffff02", 0, api.ErrForm}, {"ffffffffffffffffffff", 0, api.ErrForm}, {"80808080808080808000", 0, api.ErrForm},
	} {
		r := New(hex(x.in))
		before := r.Left()
		n, err := r.Int()
		if n != x.n || err != x.err || err == api.OK && r.Left() != 0 || err != api.OK && r.Left() != before {
			t.Errorf("%s: %d, %d, %d left, not %d, %d", x.in, n, err, r.Left(), x.n, x.err)
		}
	}
}

func TestIntOfAnyBytes(t *testing.T) {
	rowsOfAll(func(b []byte) {
		_, size, wantErr := asked(b)
		want, _ := binary.Varint(b[:size])
		r := New(b)
		if n, err := r.Int(); n != want || err != wantErr || r.Left() != len(b)-size {
			t.Fatalf("%x: %d, %d, %d left, not %d, %d", b, n, err, r.Left(), want, wantErr)
		}
	})
}

func TestBytesReads(t *testing.T) {
	for _, x := range []struct {
		in   string
		most int
		want string
		left int
		err  api.Errno
	}{
		{"00", 0, "", 0, api.OK}, {"00", 9, "", 0, api.OK}, {"0005", 0, "", 1, api.OK}, {"026162", 2, "ab", 0, api.OK}, {"026162", math.MaxInt, "ab", 0, api.OK}, {"02616263", 2, "ab", 1, api.OK},
		{"026162", -1, "", 3, api.ErrArg}, {"026162", math.MinInt, "", 3, api.ErrArg}, {"", -1, "", 0, api.ErrArg}, {"8000", -1, "", 2, api.ErrArg}, {"00", -1, "", 1, api.ErrArg},
		{"", 0, "", 0, api.ErrShort}, {"", 9, "", 0, api.ErrShort}, {"80", 0, "", 1, api.ErrShort}, {"02", 2, "", 1, api.ErrShort}, {"0261", 2, "", 2, api.ErrShort}, {"0261", math.MaxInt, "", 2, api.ErrShort},
		{"8000", 0, "", 2, api.ErrForm}, {"82006162", 9, "", 4, api.ErrForm}, {"ffffffffffffffffff02", math.MaxInt, "", 10, api.ErrForm},
		{"026162", 1, "", 3, api.ErrLong}, {"02", 1, "", 1, api.ErrLong}, {"026162", 0, "", 3, api.ErrLong}, {"8001", 127, "", 2, api.ErrLong}, {"8001", 128, "", 2, api.ErrShort},
		{"80808080808080808001", math.MaxInt, "", 10, api.ErrLong}, {"ffffffffffffffffff01", math.MaxInt, "", 10, api.ErrLong}, {"ffffffffffffffff7f", math.MaxInt, "", 9, api.ErrShort}, {"ffffffffffffffff7f61", math.MaxInt - 1, "", 10, api.ErrLong},
		{"ffffffff0f61", math.MaxInt, "", 6, api.ErrShort}, {"808080800861", math.MaxInt, "", 6, api.ErrShort},
	} {
		r := New(hex(x.in))
		s, err := r.Bytes(x.most)
		if string(s) != x.want || err != x.err || r.Left() != x.left {
			t.Errorf("%s, %d: %q, %d, %d left, not %q, %d, %d", x.in, x.most, s, err, r.Left(), x.want, x.err, x.left)
		}
	}
}

// TestBytesOfAnyBytes holds Bytes against the chapter's row of errors: Num's, then whether enough are left.
func TestBytesOfAnyBytes(t *testing.T) {
	rowsOfAll(func(b []byte) {
		for _, most := range []int{-1, 0, 1, 2, 127, 128, 1 << 20, math.MaxInt} {
			n, size, want := asked(b)
			switch {
			case most < 0:
				want = api.ErrArg
			case want != api.OK:
			case n > uint64(most):
				want = api.ErrLong
			case n > uint64(len(b)-size):
				want = api.ErrShort
			}
			r := New(b)
			s, err := r.Bytes(most)
			if err != want {
				t.Fatalf("%x, %d: %x, %d, not %d", b, most, s, err, want)
			}
			if want != api.OK && (len(s) != 0 || r.Left() != len(b)) {
				t.Fatalf("%x, %d: %x, %d left, beside %d", b, most, s, r.Left(), err)
			}
			if want == api.OK && (!bytes.Equal(s, b[size:size+int(n)]) || r.Left() != len(b)-size-int(n)) {
				t.Fatalf("%x, %d: %x, %d left", b, most, s, r.Left())
			}
		}
	})
}

func TestReadBytesAreNewMemory(t *testing.T) {
	r := New([]byte("\x02ab\x02cd"))
	same := *r // reads the same bytes, so it would see them change
	s, _ := r.Bytes(2)
	s[0], s[1] = 'x', 'y'
	s = append(s, "zzzz"...)
	if next, err := r.Bytes(2); string(next) != "cd" || err != api.OK {
		t.Errorf("what is left changed with what was read: %q, %d", next, err)
	}
	if again, err := same.Bytes(2); string(again) != "ab" || err != api.OK {
		t.Errorf("the reader's bytes changed with what was read: %q, %d", again, err)
	}
}

func TestErrorReadsNothing(t *testing.T) {
	r := New([]byte("\x83\x01\x05"))
	for range 3 {
		if n, err := r.Num(130); n != 0 || err != api.ErrLong || r.Left() != 3 {
			t.Fatalf("Num: %d, %d, %d left", n, err, r.Left())
		}
		if s, err := r.Bytes(130); len(s) != 0 || err != api.ErrLong || r.Left() != 3 {
			t.Fatalf("Bytes(130): %x, %d, %d left", s, err, r.Left())
		}
		if s, err := r.Bytes(131); len(s) != 0 || err != api.ErrShort || r.Left() != 3 || r.End() != api.ErrLong {
			t.Fatalf("Bytes(131): %x, %d, %d left", s, err, r.Left())
		}
	}
	if n, err := r.Num(131); n != 131 || err != api.OK || r.Left() != 1 {
		t.Errorf("then it is read: %d, %d, %d left", n, err, r.Left())
	}
	r = New([]byte("\x01\x82"))
	if n, err := r.Int(); n != -1 || err != api.OK {
		t.Errorf("%d, %d", n, err)
	}
	for range 3 {
		if n, err := r.Int(); n != 0 || err != api.ErrShort || r.Left() != 1 {
			t.Errorf("Int: %d, %d, %d left", n, err, r.Left())
		}
	}
}

// part is one thing that is laid and read: a number, a signed one, or bytes.
type part struct {
	kind int
	n    uint64
	i    int64
	s    []byte
}

func (p part) lay(b []byte) []byte {
	switch p.kind {
	case 0:
		return Num(b, p.n)
	case 1:
		return Int(b, p.i)
	}
	return Bytes(b, p.s)
}

// read reads a thing of p's kind, and tells whether it is p.
func (p part) read(r *Reader) (bool, api.Errno) {
	switch p.kind {
	case 0:
		n, err := r.Num(p.n)
		return n == p.n, err
	case 1:
		i, err := r.Int()
		return i == p.i, err
	}
	s, err := r.Bytes(len(p.s))
	return bytes.Equal(s, p.s), err
}

// parts answers n things, the same for each seed.
func parts(seed int64, n int) []part {
	dice := rand.New(rand.NewSource(seed))
	var l []part
	for range n {
		p := part{kind: dice.Intn(3), n: dice.Uint64() >> dice.Intn(64), i: int64(dice.Uint64()) >> dice.Intn(64), s: make([]byte, dice.Intn(6))}
		if dice.Intn(8) == 0 {
			p.s = make([]byte, 120+dice.Intn(20))
		}
		dice.Read(p.s)
		l = append(l, p)
	}
	return l
}

func TestBack(t *testing.T) {
	for _, n := range numbers() {
		r := New(Num(nil, n))
		if got, err := r.Num(n); got != n || err != api.OK || r.End() != api.OK {
			t.Fatalf("%d: %d, %d, %d left", n, got, err, r.Left())
		}
	}
	for _, n := range signed() {
		r := New(Int(nil, n))
		if got, err := r.Int(); got != n || err != api.OK || r.End() != api.OK {
			t.Fatalf("%d: %d, %d, %d left", n, got, err, r.Left())
		}
	}
	for size := range 400 {
		s := bytes.Repeat([]byte{byte(size)}, size)
		r := New(Bytes(nil, s))
		if got, err := r.Bytes(size); !bytes.Equal(got, s) || err != api.OK || r.End() != api.OK {
			t.Fatalf("%d bytes: %x, %d, %d left", size, got, err, r.Left())
		}
	}
}

// TestBackOfRows lays rows of things, and reads each beginning of the bytes: all that is whole in it, then ErrShort.
func TestBackOfRows(t *testing.T) {
	for seed := range int64(60) {
		l := parts(seed, int(seed)%9)
		var b []byte
		var ends []int
		for _, p := range l {
			b = p.lay(b)
			ends = append(ends, len(b))
		}
		for cut := range len(b) + 1 {
			r := New(b[:cut])
			for i, p := range l {
				same, err := p.read(r)
				if ends[i] > cut {
					if err != api.ErrShort {
						t.Fatalf("%x, of %x: part %d: %d", b[:cut], b, i, err)
					}
					break
				}
				if !same || err != api.OK || r.Left() != cut-ends[i] {
					t.Fatalf("%x, of %x: part %d: %v, %d, %d left", b[:cut], b, i, same, err, r.Left())
				}
			}
			if cut == len(b) && r.End() != api.OK {
				t.Fatalf("%x: %d left", b, r.Left())
			}
		}
	}
}

func TestLaidAgain(t *testing.T) {
	read := 0
	rowsOfAll(func(b []byte) {
		r := New(b)
		if n, err := r.Num(math.MaxUint64); err == api.OK {
			read++
			if went := b[:len(b)-r.Left()]; !bytes.Equal(Num(nil, n), went) {
				t.Fatalf("%x: %d is laid as %x", went, n, Num(nil, n))
			}
		}
		r = New(b)
		if n, err := r.Int(); err == api.OK {
			read++
			if went := b[:len(b)-r.Left()]; !bytes.Equal(Int(nil, n), went) {
				t.Fatalf("%x: %d is laid as %x", went, n, Int(nil, n))
			}
		}
		r = New(b)
		if s, err := r.Bytes(math.MaxInt); err == api.OK {
			read++
			if went := b[:len(b)-r.Left()]; !bytes.Equal(Bytes(nil, s), went) {
				t.Fatalf("%x: %x is laid as %x", went, s, Bytes(nil, s))
			}
		}
	})
	if read < 1000 {
		t.Error("too few were read:", read)
	}
}

func TestNoFormBeginsAnother(t *testing.T) {
	var nums, ints, strings [][]byte
	for _, n := range numbers() {
		nums = append(nums, Num(nil, n))
	}
	for _, n := range signed() {
		ints = append(ints, Int(nil, n))
	}
	rowsOfAll(func(b []byte) { strings = append(strings, Bytes(nil, b)) })
	for size := range 300 {
		strings = append(strings, Bytes(nil, make([]byte, size)))
	}
	for _, l := range [][][]byte{nums, ints, strings} {
		slices.SortFunc(l, bytes.Compare) // what begins another one stands right ahead of one that it begins
		l = slices.CompactFunc(l, bytes.Equal)
		for i := 1; i < len(l); i++ {
			if bytes.HasPrefix(l[i], l[i-1]) {
				t.Errorf("%x begins %x", l[i-1], l[i])
			}
		}
	}
}

// TestAnyBytes reads any bytes in any way until nothing can be read: each step ends, and only what it read is gone.
func TestAnyBytes(t *testing.T) {
	dice := rand.New(rand.NewSource(1))
	for range 3000 {
		b := make([]byte, dice.Intn(60))
		dice.Read(b)
		r := New(b)
		for misses := 0; misses < 5; {
			before := r.Left()
			var err api.Errno
			switch dice.Intn(3) {
			case 0:
				_, err = r.Num(dice.Uint64() >> dice.Intn(64))
			case 1:
				_, err = r.Int()
			default:
				_, err = r.Bytes(dice.Intn(80) - 8)
			}
			if (err == api.OK) != (r.Left() < before) || r.Left() > before {
				t.Fatalf("%x: %d, %d left of %d", b, err, r.Left(), before)
			}
			if err != api.OK {
				misses++
			}
		}
		if (r.End() == api.OK) != (r.Left() == 0) {
			t.Fatalf("%x: %d, %d left", b, r.End(), r.Left())
		}
	}
}
