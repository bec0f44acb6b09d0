package segment

import (
	"bytes"
	"math"
	"math/rand"
	"slices"
	"strings"
	"testing"

	"pneumatic/api"
	"pneumatic/disk"
	"pneumatic/frame"
	"pneumatic/wire"
)

func TestConstants(t *testing.T) {
	if Most != 1500 || Every != 4 {
		t.Error(Most, Every)
	}
}

// P12.1

func TestNamesOfTheChapter(t *testing.T) {
	for _, x := range []struct {
		place int
		first uint64
		want  string
	}{
		{2, 17, "s2-0000000000017"}, {0, 1, "s0-0000000000001"}, {3, 1 << 40, "s3-1099511627776"},
		{1, 1234567890123 % (1 << 40), "s1-0135056262347"}, {0, 999999999999, "s0-0999999999999"}, {3, 1000000000000, "s3-1000000000000"},
	} {
		if name, e := Name(x.place, x.first); name != x.want || e != api.OK {
			t.Errorf("Name(%d, %d): %q, %d, not %q", x.place, x.first, name, e, x.want)
		}
		if place, first, e := Parse(x.want); place != x.place || first != x.first || e != api.OK {
			t.Errorf("Parse(%q): %d, %d, %d", x.want, place, first, e)
		}
	}
}

func TestNameOfAllThatMayBe(t *testing.T) {
	numbers := edges()
	for n := uint64(1); n < 1<<40; n *= 10 {
		numbers = append(numbers, n, n+1, n*9, max(1, n-1))
	}
	r := rand.New(rand.NewSource(1))
	for range 2000 {
		numbers = append(numbers, 1+uint64(r.Int63n(1<<40))>>r.Intn(40))
	}
	for _, first := range numbers {
		for place := range 4 {
			if first > 1<<40 {
				continue
			}
			name, e := Name(place, first)
			if name != named(place, first) || e != api.OK || !disk.May(name) {
				t.Fatalf("Name(%d, %d): %q, %d", place, first, name, e)
			}
			if p, n, e := Parse(name); p != place || n != first || e != api.OK {
				t.Fatalf("Parse(%q): %d, %d, %d", name, p, n, e)
			}
		}
	}
}

func TestNameOfWhatMayNotBe(t *testing.T) {
	places := []int{-1, -2, 4, 5, 9, 10, 64, 255, 256, 257, 1 << 16, 1<<16 + 1, math.MaxInt32, math.MinInt32, math.MaxInt, math.MaxInt - 1, math.MinInt, math.MinInt + 1}
	for _, place := range places {
		for _, first := range append(edges(), wrong()...) {
			noName(t, place, first)
		}
	}
	for _, first := range append(wrong(), 1099511627777, 9999999999999, 10000000000000, 10000000000001) {
		for place := range 4 {
			noName(t, place, first)
		}
	}
}

// noName fails unless Name tells ErrArg, and no name beside it.
func noName(t *testing.T, place int, first uint64) {
	t.Helper()
	if name, e := Name(place, first); name != "" || e != api.ErrArg {
		t.Errorf("Name(%d, %d): %q, %d", place, first, name, e)
	}
}

func TestNamesRiseWithTheirNumbers(t *testing.T) {
	l := edges()
	for i := range l[1:] {
		a, _ := Name(1, l[i])
		b, _ := Name(1, l[i+1])
		if a >= b {
			t.Error(a, b)
		}
	}
}

// parses fails unless Parse tells of name what the chapter's words alone ask.
func parses(t *testing.T, name string) {
	t.Helper()
	want := api.OK
	place, first, is := read(name)
	if !is {
		want = api.ErrForm
	}
	if p, n, e := Parse(name); p != place || n != first || e != want {
		t.Fatalf("Parse(%q): %d, %d, %d, not %d, %d, %d", name, p, n, e, place, first, want)
	}
}

func TestParseOfWhatIsNoName(t *testing.T) {
	for _, name := range []string{
		"", "s", "s2", "s2-", "s-", "-", "2-0000000000017", "s2-17", "s2-0000000000000", "s2-1099511627777", "s2-9999999999999",
		"s4-0000000000017", "s5-0000000000001", "s9-0000000000017", "s-1-000000000001", "s02-000000000017", "s2-000000000017", "s2-00000000000017",
		"s2-00000000000170", "s2-0000000000017 ", " s2-0000000000017", "s2 -000000000017", "S2-0000000000017", "t2-0000000000017", "t2", "s2_0000000000017", "s20000000000017", "s200000000000017",
		"s2--000000000017", "s2-+000000000017", "s2--000000000001", "s+-0000000000017", "s--0000000000017", "s2- 000000000017", "s2-000000000001 ", "s2-0_0000000001", "s2-0_00000000001", "s2-0x00000000017", "s2-0x0000000000a", "s2-00000000001e1", "s2-000000000017.",
		"s2-000000000001a", "s2-000000000000\u0661", "s2-00000000000\u0661", "s\u0662-000000000017", "s2-\x00000000000017", "s2-0000000000017\x00", "s2-0000000000017\n",
		"ss2-0000000000017", "s2-0000000000017s2-0000000000017", "s2-0000000000017-", "s2-s000000000017", "0000000000017", "s2-\xff000000000017",
	} {
		if p, n, e := Parse(name); p != 0 || n != 0 || e != api.ErrForm {
			t.Errorf("Parse(%q): %d, %d, %d", name, p, n, e)
		}
		parses(t, name)
	}
}

// TestParseOfNamesChanged changes each byte of names to any other one, takes some out, and puts some in.
func TestParseOfNamesChanged(t *testing.T) {
	for _, name := range []string{"s2-0000000000017", "s0-0000000000001", "s3-1099511627776", "s1-0999999999999"} {
		for i := range len(name) + 1 {
			parses(t, name[:i])
			parses(t, name[i:])
			for c := range 256 {
				parses(t, name[:i]+string([]byte{byte(c)})+name[i:])
				if i < len(name) {
					parses(t, name[:i]+string([]byte{byte(c)})+name[i+1:])
				}
			}
			for j := i; j < len(name); j++ {
				parses(t, name[:i]+name[j:])
			}
		}
	}
}

func TestParseOfLongNames(t *testing.T) {
	for _, c := range []string{"0", "9", "s", "-", "\xff"} {
		parses(t, strings.Repeat(c, 1<<16))
		parses(t, "s2-"+strings.Repeat(c, 1<<16))
		parses(t, "s2-0000000000017"+strings.Repeat(c, 1<<16))
	}
	parses(t, "s"+strings.Repeat("0", 1<<16)+"2-0000000000017")
}

func TestParseOfAnyText(t *testing.T) {
	const letters = "s2-0000000017"
	r := rand.New(rand.NewSource(2))
	for range 20000 {
		b := []byte(named(r.Intn(5), uint64(r.Int63n(1<<41))>>r.Intn(41)))
		for range r.Intn(3) {
			b[r.Intn(len(b))] = letters[r.Intn(len(letters))]
		}
		parses(t, string(b))
	}
}

// P12.2: Put

func TestPutOfSome(t *testing.T) {
	for _, x := range []struct {
		r    Rec
		want string
	}{
		{Rec{N: 5, Data: []byte("a")}, "\x02\x00\x00\x00\x05a"},
		{Rec{N: 1}, "\x01\x00\x00\x00\x01"},
		{Rec{N: 300, Data: []byte("ab")}, "\x04\x00\x00\x00\xac\x02ab"},
		{Rec{N: 1 << 40, Data: []byte{0}}, "\x07\x00\x00\x00\x80\x80\x80\x80\x80\x20\x00"},
	} {
		b, e := Put(x.r)
		if e != api.OK || len(b) != len(x.want)+4 || !strings.HasPrefix(string(b), x.want) || !bytes.Equal(b, framed([]byte(x.want[4:]))) {
			t.Errorf("Put(%v): %x, %d", x.r, b, e)
		}
	}
}

func TestPutIsTheFrameOfNumberAndData(t *testing.T) {
	r := rand.New(rand.NewSource(3))
	for _, n := range edges() {
		for _, size := range []int{0, 1, 2, 7, 127, 128, 255, 256, 1000, 1499, 1500} {
			data := some(r, size)
			b, e := Put(Rec{N: n, Data: data})
			f, _ := frame.Put(append(wire.Num(nil, n), data...))
			if e != api.OK || !bytes.Equal(b, form(n, data)) || !bytes.Equal(b, f) {
				t.Fatalf("Put of %d and %d bytes: %x, %d", n, size, b, e)
			}
			told(t, b, n, []Rec{{N: n, Data: data}}, len(b))
			told(t, b, 1, []Rec{{N: n, Data: data}}, len(b))
		}
	}
}

func TestPutOfEachLength(t *testing.T) {
	r := rand.New(rand.NewSource(4))
	for size := range 1600 {
		if size > 1500 {
			refused(t, 9, size, api.ErrLong)
			continue
		}
		data := some(r, size)
		if b, e := Put(Rec{N: 9, Data: data}); e != api.OK || !bytes.Equal(b, form(9, data)) {
			t.Fatal(size, e)
		}
	}
}

func TestPutOfWhatIsNoRecord(t *testing.T) {
	for _, n := range wrong() {
		for _, size := range []int{0, 1, 1500, 1501, 2048, 4096} {
			refused(t, n, size, api.ErrArg)
		}
	}
	for _, n := range edges() {
		for _, size := range []int{1501, 1502, 2040, 2047, 2048, 2049, 4096, 65536, 65537} {
			refused(t, n, size, api.ErrLong)
		}
	}
}

// P12.2: Split

func TestSplitOfTheChapter(t *testing.T) {
	l := []Rec{{N: 5, Data: []byte("a")}, {N: 7, Data: []byte("b")}}
	b := forms(l)
	for c := range 256 {
		told(t, append(slices.Clone(b), byte(c)), 5, l, 20)
		told(t, append(slices.Clone(b), byte(c)), 6, nil, 0)
	}
	for first := uint64(1); first <= 5; first++ {
		told(t, b, first, l, 20)
	}
	for _, first := range []uint64{6, 7, 8, 1 << 20, 1 << 40} {
		told(t, b, first, nil, 0)
	}
	told(t, b[10:], 6, l[1:], 10)
	told(t, b[10:], 7, l[1:], 10)
	told(t, b[10:], 8, nil, 0)
}

func TestSplitOfAFirstNumberThatMayNotBe(t *testing.T) {
	for _, first := range wrong() {
		told(t, nil, first, nil, 0)
		told(t, []byte("anything"), first, nil, 0)
		for _, n := range edges() {
			told(t, form(n, []byte("a")), first, nil, 0)
		}
		told(t, form(first, []byte("a")), first, nil, 0)
		told(t, form(first, nil), 1, nil, 0)
	}
	told(t, form(1, nil), 1, []Rec{{N: 1}}, 9)
	told(t, form(1<<40, nil), 1<<40, []Rec{{N: 1 << 40}}, 14)
	told(t, form(1<<40-1, nil), 1<<40, nil, 0)
}

func TestSplitOfNothing(t *testing.T) {
	for _, first := range edges() {
		told(t, nil, first, nil, 0)
		told(t, []byte{}, first, nil, 0)
		for size := range 30 {
			told(t, make([]byte, size), first, nil, 0)
			told(t, bytes.Repeat([]byte{0xff}, size), first, nil, 0)
		}
	}
}

// TestNumbersThatDoNotRise: what stands behind one that does not is none of these bytes', though it would rise.
func TestNumbersThatDoNotRise(t *testing.T) {
	for _, x := range []struct {
		numbers []uint64
		first   uint64
		whole   int
	}{
		{[]uint64{5, 5}, 5, 1}, {[]uint64{5, 4}, 1, 1}, {[]uint64{5, 4, 6}, 1, 1}, {[]uint64{5, 5, 6}, 5, 1}, {[]uint64{4, 5, 6}, 5, 0}, {[]uint64{5, 7, 6, 8}, 5, 2},
		{[]uint64{1, 2, 3, 1}, 1, 3}, {[]uint64{1, 2, 2, 3}, 1, 2}, {[]uint64{3, 9, 8}, 1, 2}, {[]uint64{1, 2, 3, 9, 4}, 1, 4}, {[]uint64{1, 1 << 40, 1 << 40}, 1, 2}, {[]uint64{1 << 40, 1}, 1, 1},
		{[]uint64{1, 2, 3}, 1, 3}, {[]uint64{1, 3, 1 << 40}, 1, 3}, {[]uint64{127, 128, 129}, 127, 3}, {[]uint64{128, 127}, 127, 1}, {[]uint64{255, 256, 1}, 2, 2}, {[]uint64{1<<32 + 1, 2}, 1, 1},
	} {
		var l []Rec
		for i, n := range x.numbers {
			l = append(l, Rec{N: n, Data: []byte{byte(i)}})
		}
		told(t, forms(l), x.first, l[:x.whole], len(forms(l[:x.whole])))
	}
}

// TestFramesOfNoRecord: the sums are right, but what stands in the frame is no record; nothing behind it is looked at.
func TestFramesOfNoRecord(t *testing.T) {
	behind := form(9, []byte("b"))
	ahead := []Rec{{N: 2, Data: []byte("a")}}
	for _, bad := range [][]byte{
		framed(nil), form(0, nil), form(0, []byte("a")), form(3, make([]byte, 1501)), form(3, make([]byte, 2047)), form(3, make([]byte, 2048)), form(1<<40+1, nil), form(1<<40+1, []byte("a")), form(1<<64-1, []byte("a")),
		framed([]byte{0x80}), framed([]byte{0x80, 0x00}), framed([]byte{0x83, 0x00}), framed([]byte{0x83, 0x80, 0x00}), framed([]byte{0x83, 0x80, 0x00, 'a'}), framed([]byte{0xff, 0xff, 0xff}),
		framed(bytes.Repeat([]byte{0x80}, 20)), framed(append(bytes.Repeat([]byte{0xff}, 9), 2)), framed(append(bytes.Repeat([]byte{0xff}, 9), 1)), framed(append(bytes.Repeat([]byte{0x83}, 9), 0)), framed(append(bytes.Repeat([]byte{0x83}, 10), 0)),
		{3, 'a'}, append([]byte{3}, framed([]byte("a"))...), framed([]byte{3, 'a'})[:9], append([]byte{0, 0, 0, 0}, form(3, nil)...),
	} {
		told(t, bad, 1, nil, 0)
		told(t, append(slices.Clone(bad), behind...), 1, nil, 0)
		told(t, slices.Concat(forms(ahead), bad), 1, ahead, 10)
		told(t, slices.Concat(forms(ahead), bad, behind), 1, ahead, 10)
		held(t, slices.Concat(forms(ahead), bad, behind), 1)
	}
	for _, good := range []Rec{{N: 3}, {N: 3, Data: make([]byte, 1500)}, {N: 8, Data: []byte{0x80}}, {N: 8, Data: framed(nil)}} {
		l := append(slices.Clone(ahead), good, Rec{N: 9, Data: []byte("b")})
		told(t, slices.Concat(forms(ahead), form(good.N, good.Data), behind), 1, l, len(forms(l)))
	}
}

// TestARecordMayHoldForms: what stands in a record's data is no record of the bytes.
func TestARecordMayHoldForms(t *testing.T) {
	in := forms([]Rec{{N: 5, Data: []byte("a")}, {N: 7, Data: []byte("b")}})
	told(t, form(3, in), 1, []Rec{{N: 3, Data: in}}, len(in)+9)
	told(t, form(6, in), 6, []Rec{{N: 6, Data: in}}, len(in)+9)
	told(t, form(3, in)[5:], 5, []Rec{{N: 5, Data: []byte("a")}, {N: 7, Data: []byte("b")}}, len(in))
}

func TestSplitOfAnyBytes(t *testing.T) {
	r := rand.New(rand.NewSource(5))
	for range 4000 {
		first := start(r)
		b := forms(row(r, first, 6))
		held(t, b, first)
		held(t, b, max(1, first-1))
		held(t, b, min(1<<40, first+uint64(r.Intn(60))))
		held(t, append(b, some(r, r.Intn(20))...), first)
		held(t, append(b, forms(row(r, start(r), 3))...), first)
		for range min(len(b), 1+r.Intn(3)) {
			b[r.Intn(len(b))] = byte(r.Intn(4))
		}
		held(t, b, first)
		at := r.Intn(len(b) + 1)
		held(t, b[at:], first)
		held(t, slices.Insert(slices.Clone(b), at, byte(r.Intn(12))), first)
		held(t, some(r, r.Intn(30)), first)
	}
}

// TestSplitOfAnyFrames: the sums are right, and what stands in the frames begins with some odd number, or none.
func TestSplitOfAnyFrames(t *testing.T) {
	letters := []byte{0, 1, 2, 3, 4, 0x7f, 0x80, 0x81, 0x82, 0xff}
	r := rand.New(rand.NewSource(6))
	for range 20000 {
		var b []byte
		for range r.Intn(5) {
			in := make([]byte, r.Intn(5))
			for i := range in {
				in[i] = letters[r.Intn(len(letters))]
			}
			b = append(b, framed(in)...)
		}
		held(t, b, 1+uint64(r.Intn(4)))
	}
}

// P12.2: Same

func TestSame(t *testing.T) {
	rec := func(n uint64, data string) Rec { return Rec{N: n, Data: []byte(data)} }
	lists := [][]Rec{
		{}, {rec(5, "a")}, {rec(5, "b")}, {rec(6, "a")}, {rec(5, "")}, {rec(5, "ab")}, {rec(0, "")}, {rec(1<<63, "a")}, {rec(5+1<<32, "a")},
		{rec(5, "a"), rec(7, "b")}, {rec(7, "b"), rec(5, "a")}, {rec(5, "b"), rec(7, "a")}, {rec(5, "a"), rec(7, "c")}, {rec(5, "a"), rec(8, "b")}, {rec(5, "a"), rec(5, "a")},
		{rec(5, "a"), rec(7, "b"), rec(9, "")}, {rec(5, "A")}, {rec(5, "a\x00")}, {rec(5, strings.Repeat("a", 1501))}, {rec(5, strings.Repeat("a", 1502))},
	}
	for i, a := range lists {
		for j, b := range lists {
			if is := Same(a, copied(b)); is != (i == j) {
				t.Errorf("Same(%v, %v): %v", a, b, is)
			}
		}
	}
	for _, a := range [][]Rec{nil, {}, make([]Rec, 0, 4), lists[9][:0]} {
		if !Same(a, nil) || !Same(nil, a) || Same(a, lists[1]) || Same(lists[1], a) {
			t.Error(a)
		}
	}
	if !Same([]Rec{{N: 5}}, []Rec{{N: 5, Data: []byte{}}}) || !Same([]Rec{{N: 5, Data: []byte{}}}, []Rec{{N: 5}}) {
		t.Error("no data is no data")
	}
}

func TestSameOfAny(t *testing.T) {
	r := rand.New(rand.NewSource(7))
	for range 5000 {
		a := append(row(r, 1, 4), Rec{N: 9999, Data: some(r, r.Intn(3))})
		b := copied(a)
		x := &b[r.Intn(len(b))]
		switch r.Intn(5) {
		case 0:
			x.N++
		case 1:
			x.Data = append(x.Data, 0)
		case 2:
			x.Data = some(r, len(x.Data))
		case 3:
			b = b[:len(b)-1]
		}
		if Same(a, b) != same(a, b) || Same(b, a) != same(a, b) || !Same(a, copied(a)) {
			t.Fatalf("%v, %v", a, b)
		}
	}
}

// P12.3

func TestPlacesOfSome(t *testing.T) {
	var l []Rec
	for i := range 13 {
		l = append(l, Rec{N: uint64(i + 1), Data: make([]byte, i)})
	}
	all := []Place{{1, 0}, {5, 42}, {9, 100}, {13, 174}}
	for n := range 14 {
		if p := Places(l[:n]); !slices.Equal(p, all[:(n+3)/4]) {
			t.Errorf("Places of %d: %v", n, p)
		}
	}
	if p := Places(l[1:]); !slices.Equal(p, []Place{{2, 0}, {6, 46}, {10, 108}}) {
		t.Error(p)
	}
	if p := Places(nil); len(p) != 0 {
		t.Error(p)
	}
	if p := Places([]Rec{}); len(p) != 0 {
		t.Error(p)
	}
}

// TestPlacesOfLongNumbers: the forms ahead have as many bytes as their numbers ask.
func TestPlacesOfLongNumbers(t *testing.T) {
	var l []Rec
	for _, n := range edges() {
		l = append(l, Rec{N: n, Data: []byte("ab")})
	}
	want := []Place{{1, 0}, {128, 44}, {1<<14 - 1, 92}, {1<<28 - 1, 144}, {1<<35 - 1, 203}}
	if p := Places(l); !slices.Equal(p, want) || !slices.Equal(p, sparse(l)) {
		t.Error(p, sparse(l))
	}
	l[3].Data = make([]byte, 1500)
	l[7].Data = nil
	if p := Places(l); !slices.Equal(p, sparse(l)) || p[1].At != 1542 || p[2].At != 1588 {
		t.Error(p, sparse(l))
	}
}

// TestPlacesUpToWhatHasNoForm: neither of it is there a place, nor of any behind it.
func TestPlacesUpToWhatHasNoForm(t *testing.T) {
	bad := []Rec{{N: 100, Data: make([]byte, 1501)}, {N: 100, Data: make([]byte, 2046)}, {N: 100, Data: make([]byte, 2048)}, {N: 100, Data: make([]byte, 5000)}}
	for _, n := range wrong() {
		bad = append(bad, Rec{N: n, Data: []byte("a")})
	}
	for i := range 14 {
		for _, r := range bad {
			var l []Rec
			for n := range 14 {
				l = append(l, Rec{N: uint64(n + 1), Data: []byte("ab")})
			}
			l[i] = r
			if p := Places(l); len(p) != (i+3)/4 || !slices.Equal(p, sparse(l)) {
				t.Fatalf("%d bytes of number %d at %d: %v", len(r.Data), r.N, i, p)
			}
		}
	}
}

// TestPlacesOfNumbersThatDoNotRise: each fourth one has a place, whatever its number.
func TestPlacesOfNumbersThatDoNotRise(t *testing.T) {
	l := []Rec{{N: 9}, {N: 9}, {N: 1}, {N: 300}, {N: 2}, {N: 1}, {N: 1}, {N: 1}, {N: 9}}
	if p := Places(l); !slices.Equal(p, []Place{{9, 0}, {2, 37}, {9, 73}}) {
		t.Error(p)
	}
}

func TestFrom(t *testing.T) {
	places := []Place{{3, 0}, {7, 40}, {11, 90}, {1 << 40, 1000}}
	for _, x := range []struct {
		n    uint64
		want int
	}{
		{0, 0}, {1, 0}, {2, 0}, {3, 0}, {4, 0}, {6, 0}, {7, 40}, {8, 40}, {10, 40}, {11, 90}, {12, 90}, {1<<32 + 4, 90}, {1<<40 - 1, 90}, {1 << 40, 1000}, {1<<40 + 1, 1000}, {1<<64 - 1, 1000},
	} {
		if at := From(places, x.n); at != x.want {
			t.Errorf("From of %d: %d, not %d", x.n, at, x.want)
		}
	}
	for _, n := range append(edges(), wrong()...) {
		if From(nil, n) != 0 || From([]Place{}, n) != 0 {
			t.Error(n)
		}
	}
}

// TestFromOfPlacesThatBeginFurtherOn: ahead of the first of them it is 0, not where that one begins.
func TestFromOfPlacesThatBeginFurtherOn(t *testing.T) {
	places := []Place{{5, 17}, {9, 60}}
	for n, want := range []int{0, 0, 0, 0, 0, 17, 17, 17, 17, 60, 60} {
		if at := From(places, uint64(n)); at != want {
			t.Errorf("From of %d: %d, not %d", n, at, want)
		}
	}
	for n, want := range []int{0, 0, 0, 0, 0, 17, 17} {
		if at := From(places[:1], uint64(n)); at != want {
			t.Errorf("From of %d: %d, not %d", n, at, want)
		}
	}
}

func TestFromOfAnyPlaces(t *testing.T) {
	r := rand.New(rand.NewSource(8))
	for range 5000 {
		places := Places(row(r, start(r), 20))
		for _, p := range append(places, Place{N: start(r)}) {
			for n := max(p.N, 2) - 2; n < p.N+3; n++ {
				want := 0
				for _, q := range places {
					if q.N <= n {
						want = max(want, q.At)
					}
				}
				if at := From(places, n); at != want {
					t.Fatalf("From(%v, %d): %d, not %d", places, n, at, want)
				}
			}
		}
	}
}

// P12.4

func TestSplitOfFormsIsAll(t *testing.T) {
	r := rand.New(rand.NewSource(9))
	for range 4000 {
		first := start(r)
		l := row(r, first, 12)
		var b []byte
		for _, x := range l {
			f, e := Put(x)
			if e != api.OK {
				t.Fatal(e)
			}
			b = append(b, f...)
		}
		told(t, b, first, l, len(b))
		if got, _ := Split(b, first); !Same(got, l) {
			t.Fatalf("%v, not %v", got, l)
		}
	}
}

func TestSplitOfLongRecords(t *testing.T) {
	r := rand.New(rand.NewSource(10))
	var l []Rec
	for i, n := range edges() {
		l = append(l, Rec{N: n, Data: some(r, 1500-i%3)})
		told(t, forms(l), 1, l, len(forms(l)))
	}
}

func TestWhateverStandsBehind(t *testing.T) {
	r := rand.New(rand.NewSource(11))
	for range 3000 {
		first := start(r)
		l := row(r, first, 5)
		b := forms(l)
		for _, behind := range [][]byte{some(r, r.Intn(20)), make([]byte, r.Intn(20)), forms(row(r, start(r), 3)), form(0, nil), form(first, make([]byte, 1501))} {
			all := append(slices.Clone(b), behind...)
			got, n := Split(all, first)
			if n < len(b) || len(got) < len(l) || !same(got[:len(l)], l) {
				t.Fatalf("%x behind %v: %v, %d", behind, l, got, n)
			}
			held(t, all, first)
		}
	}
}

func TestPutOfWhatSplitTells(t *testing.T) {
	r := rand.New(rand.NewSource(12))
	for range 3000 {
		first := start(r)
		b := append(forms(row(r, first, 6)), some(r, r.Intn(12))...)
		if len(b) > 0 && r.Intn(2) == 0 {
			b[r.Intn(len(b))] ^= byte(1 << r.Intn(8))
		}
		l, n := Split(b, first)
		var again []byte
		for _, x := range l {
			f, e := Put(x)
			if e != api.OK {
				t.Fatal(e)
			}
			again = append(again, f...)
		}
		if !bytes.Equal(again, b[:n]) {
			t.Fatalf("%x: %x, not %x", b, again, b[:n])
		}
	}
}

func TestATornTail(t *testing.T) {
	r := rand.New(rand.NewSource(13))
	for range 20 {
		l := append(row(r, 1, 4), Rec{N: 1000, Data: some(r, r.Intn(20))})
		b, ahead := forms(l), len(forms(l[:len(l)-1]))
		for k := ahead; k < len(b); k++ {
			told(t, b[:k], 1, l[:len(l)-1], ahead)
			torn := slices.Clone(b[:k+1])
			torn[k] ^= byte(1 + r.Intn(255))
			told(t, torn, 1, l[:len(l)-1], ahead)
		}
		told(t, b, 1, l, len(b))
	}
}

// P12.5

func TestSplitFromAPlace(t *testing.T) {
	r := rand.New(rand.NewSource(14))
	for range 3000 {
		first := start(r)
		l := row(r, first, 20)
		b := forms(l)
		places := Places(l)
		for _, x := range append(l, Rec{N: first}) {
			for n := max(x.N, 2) - 2; n < x.N+3; n++ {
				fromPlace(t, l, b[From(places, n):], first, n)
			}
		}
	}
}

// fromPlace fails unless Split tells of b all of l from n on, and at most three others ahead of them.
func fromPlace(t *testing.T, l []Rec, b []byte, first, n uint64) {
	t.Helper()
	got, whole := Split(b, first)
	at := 0
	for at < len(l) && l[at].N < n {
		at++
	}
	if whole != len(b) || len(got) < len(l)-at || len(got) > len(l)-at+Every || !same(got, l[len(l)-len(got):]) {
		t.Fatalf("%v from %d: %v, %d", l, n, got, whole)
	}
}

// The rules of all layers.

func TestWhatIsHandedInIsOnlyRead(t *testing.T) {
	data := append(make([]byte, 0, 64), "one"...)
	l := []Rec{{N: 5, Data: data}, {N: 7, Data: []byte("two")}}
	before := copied(l)
	Put(l[0])
	places := Places(l)
	Same(l, before)
	if !same(l, before) || !bytes.Equal(data[3:64], make([]byte, 61)) {
		t.Fatalf("%v", l)
	}
	kept := slices.Clone(places)
	From(places, 6)
	if !slices.Equal(places, kept) {
		t.Fatal(places)
	}
	b := append(forms(l), 1, 2)
	whole := slices.Clone(b)
	Split(b, 5)
	Split(b[:15], 1)
	if !bytes.Equal(b, whole) {
		t.Fatalf("%x, not %x", b, whole)
	}
}

func TestWhatIsAnsweredIsNewMemory(t *testing.T) {
	data := []byte("one")
	f, _ := Put(Rec{N: 5, Data: data})
	clear(data)
	if !bytes.Equal(f, form(5, []byte("one"))) {
		t.Fatalf("%x", f)
	}
	want := []Rec{{N: 5, Data: []byte("one")}, {N: 7, Data: []byte("two")}, {N: 300, Data: []byte("three")}}
	b := forms(want)
	l, _ := Split(b, 5)
	again, _ := Split(b, 5)
	clear(b)
	if !same(l, want) || !same(again, want) {
		t.Fatalf("%v", l)
	}
	for i := range l {
		_ = append(l[i].Data, "more than there is, of anything"...)
		whole := l[i].Data[:cap(l[i].Data)]
		for j := range whole {
			whole[j] = '!'
		}
		if !same(again, want) || !same(l[i+1:], want[i+1:]) {
			t.Fatalf("%v", l)
		}
	}
}

func TestAnswersHangOnTheCallAlone(t *testing.T) {
	l := []Rec{{N: 5, Data: []byte("one")}, {N: 7, Data: []byte("two")}}
	b := forms(l)
	for range 3 {
		told(t, b, 6, nil, 0)
		told(t, b, 5, l, len(b))
		told(t, b[:len(b)-1], 5, l[:1], 12)
		p := Places(l)
		p[0] = Place{N: 99, At: 99}
	}
}

func TestTheTakerStandsWhereItIs(t *testing.T) {
	take := taker(forms([]Rec{{N: 5, Data: []byte("a")}, {N: 7}}))
	for range 2 {
		if r, size, is := take(6); is || r.N != 0 || len(r.Data) != 0 || size != 0 {
			t.Fatal(r, size, is)
		}
	}
	if r, size, is := take(5); !is || r.N != 5 || string(r.Data) != "a" || size != 10 {
		t.Fatal(r, size, is)
	}
	if r, size, is := take(7); !is || r.N != 7 || len(r.Data) != 0 || size != 9 {
		t.Fatal(r, size, is)
	}
	for range 2 {
		if r, size, is := take(1); is || r.N != 0 || size != 0 {
			t.Fatal(r, size, is)
		}
	}
}
