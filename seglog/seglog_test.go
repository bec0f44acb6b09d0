package seglog

import (
	"fmt"
	"math"
	"math/rand"
	"slices"
	"strconv"
	"strings"
	"testing"

	"pneumatic/api"
	"pneumatic/disk"
	"pneumatic/segment"
)

const (
	top    = uint64(1) << 40
	plenty = 1 << 20
)

// file is what stands under a name: what is synced, and what is loose.
type file struct{ name, synced, loose string }

// rec answers the form of a record with that number and data.
func rec(n uint64, data string) string { return string(form(segment.Rec{N: n, Data: []byte(data)})) }

// recs answers the forms of records from a number up to another one, each with its number as data.
func recs(from, to uint64) string {
	b := ""
	for n := from; n <= to; n++ {
		b += rec(n, strconv.FormatUint(n, 10))
	}
	return b
}

// made answers a disk with these files.
func made(t *testing.T, files ...file) *disk.Disk {
	t.Helper()
	d, e := disk.New(api.MaxBytes)
	ok(t, e)
	for _, f := range files {
		ok(t, d.Create(f.name), d.Append(f.name, []byte(f.synced)), d.Sync(f.name), d.Append(f.name, []byte(f.loose)))
	}
	return d
}

func ok(t *testing.T, errs ...api.Errno) {
	t.Helper()
	for i, e := range errs {
		if e != api.OK {
			t.Fatalf("error %d of call %d", e, i)
		}
	}
}

func tells(t *testing.T, call string, e, want api.Errno) {
	t.Helper()
	if e != want {
		t.Errorf("%s: %d, not %d", call, e, want)
	}
}

// opened opens a log, and fails if that fails.
func opened(t *testing.T, d *disk.Disk, place int) *Log {
	t.Helper()
	l, e := Open(d, place)
	if e != api.OK || l == nil {
		t.Fatalf("Open: %d", e)
	}
	return l
}

// grown answers a log with so many records, each with its number as data, on a disk of its own.
func grown(t *testing.T, records int) (*Log, *disk.Disk) {
	t.Helper()
	d := made(t)
	l := opened(t, d, 0)
	grow(t, l, records)
	return l, d
}

// grow appends until the log has told so many records.
func grow(t *testing.T, l *Log, upTo int) {
	t.Helper()
	for l.Next() <= uint64(upTo) {
		want := l.Next()
		n, e := l.Append([]byte(strconv.FormatUint(want, 10)))
		if n != want || e != api.OK {
			t.Fatalf("Append: %d, %d", n, e)
		}
	}
}

// text answers records as text: their numbers, and behind each that has not its number as data what it has.
func text(l []segment.Rec) string {
	var parts []string
	for _, r := range l {
		n := strconv.FormatUint(r.N, 10)
		if string(r.Data) != n {
			n += ":" + strings.Trim(strconv.Quote(string(r.Data)), `"`)
		}
		parts = append(parts, n)
	}
	return strings.Join(parts, " ")
}

// has fails unless the log tells these numbers, and has these segments and these records.
func has(t *testing.T, l *Log, next, durable uint64, segments string, records string) {
	t.Helper()
	all := l.Read(0, math.MaxInt)
	if text(all) != records {
		t.Errorf("records %s, not %s", text(all), records)
	}
	numbers(t, l, next, durable, segments, len(forms(all)))
}

// numbers fails unless the log tells these numbers, segments and bytes.
func numbers(t *testing.T, l *Log, next, durable uint64, segments string, bytes int) {
	t.Helper()
	if l.Next() != next || l.Durable() != durable || l.Bytes() != bytes {
		t.Errorf("Next %d, Durable %d, Bytes %d, not %d, %d, %d", l.Next(), l.Durable(), l.Bytes(), next, durable, bytes)
	}
	s := l.Segments()
	if got := strings.Trim(fmt.Sprint(s), "[]"); got != segments || l.First() != s[0] {
		t.Errorf("Segments %s, First %d, not %s", got, l.First(), segments)
	}
}

// stands fails unless the disk has just these files.
func stands(t *testing.T, d *disk.Disk, files ...file) {
	t.Helper()
	var names []string
	for _, f := range files {
		names = append(names, f.name)
		b, _ := d.Read(f.name)
		if string(b) != f.synced+f.loose || d.Loose(f.name) != len(f.loose) {
			t.Errorf("%s: %q, %d loose, not %q, %d", f.name, b, d.Loose(f.name), f.synced+f.loose, len(f.loose))
		}
	}
	slices.Sort(names)
	if got := d.Names(); !slices.Equal(got, names) {
		t.Errorf("files %q, not %q", got, names)
	}
}

// changes answers how many of the disk's calls do makes that change something: with fewer of them it tells ErrOff.
func changes(t *testing.T, set func() *disk.Disk, do func(d *disk.Disk) api.Errno) int {
	t.Helper()
	for n := range 1000 {
		d := set()
		ok(t, d.Fuse(n))
		e := do(d)
		if !d.Off() {
			if d.Create("still-on"); d.Off() {
				return n
			}
			t.Fatalf("a fuse of %d is not burnt down", n)
		}
		tells(t, "with a fuse of "+strconv.Itoa(n), e, api.ErrOff)
	}
	t.Fatal("no end")
	return 0
}

// P13.1

func TestOpenOfAnEmptyDisk(t *testing.T) {
	d := made(t)
	for place := range 4 {
		l := opened(t, d, place)
		has(t, l, 1, 0, "1", "")
		if l.Over() {
			t.Error("over")
		}
	}
	stands(t, d, file{name: "s0-0000000000001"}, file{name: "s1-0000000000001"}, file{name: "s2-0000000000001"}, file{name: "s3-0000000000001"})
	if n := changes(t, func() *disk.Disk { return made(t) }, opens); n != 1 {
		t.Errorf("%d changes", n)
	}
}

// opens opens place 0, and answers the error; it panics if there is a log beside one.
func opens(d *disk.Disk) api.Errno {
	l, e := Open(d, 0)
	if (l == nil) != (e != api.OK) {
		panic("a log beside an error, or none beside OK")
	}
	return e
}

func TestOpenOfWhatMayNotBe(t *testing.T) {
	places := []int{-1, -2, 4, 5, 10, 256, 1 << 32, -1 << 32, math.MaxInt, math.MinInt}
	off := made(t, file{name: "a"})
	ok(t, off.Fuse(0))
	off.Remove("a")
	on := made(t, file{"t0", "x", "y"}, file{"s0-0000000000001", "x", "y"})
	for _, place := range append(places, 0, 1, 2, 3) {
		for _, d := range []*disk.Disk{nil, {}} {
			l, e := Open(d, place)
			if l != nil || e != api.ErrNil {
				t.Errorf("Open(none, %d): %v, %d", place, l, e)
			}
		}
		want := api.ErrArg
		if place >= 0 && place < 4 {
			want = api.ErrOff
		} else if l, e := Open(on, place); l != nil || e != api.ErrArg {
			t.Errorf("Open(%d): %v, %d", place, l, e)
		}
		if l, e := Open(off, place); l != nil || e != want {
			t.Errorf("Open(off, %d): %v, %d, not %d", place, l, e, want)
		}
	}
	stands(t, on, file{"t0", "x", "y"}, file{"s0-0000000000001", "x", "y"})
	ok(t, off.Crash(nil, nil))
	stands(t, off, file{name: "a"})
}

func TestOpenOfAFullDisk(t *testing.T) {
	var files []file
	for i := range 512 {
		files = append(files, file{name: fmt.Sprintf("f%d", i)})
	}
	d := made(t, files...)
	tells(t, "Open", opens(d), api.ErrFull)
	stands(t, d, files...)
	files[7].name = "t0"
	tells(t, "Open with a temporary file", opens(made(t, files...)), api.OK)
	files[7].name = "s0-0000000000005"
	tells(t, "Open with a segment", opens(made(t, files...)), api.OK)
	files[7].name = "s1-0000000000005"
	tells(t, "Open with another one's segment", opens(made(t, files...)), api.ErrFull)
}

// found is what an Open of place 0 finds, and what it leaves: how many changes it makes, and what the log has.
type found struct {
	name     string
	ahead    []file
	behind   []file
	changes  int
	next     uint64
	segments string
	records  string
}

const (
	s1 = "s0-0000000000001"
	s2 = "s0-0000000000002"
	s5 = "s0-0000000000005"
	s9 = "s0-0000000000009"
	sA = "s0-0000000000010"
)

func whatIsFound() []found {
	torn := rec(7, "torn")
	torn = torn[:len(torn)-1]
	return []found{
		{"one segment", []file{{s1, recs(1, 3), ""}}, []file{{s1, recs(1, 3), ""}}, 0, 4, "1", "1 2 3"},
		{"a loose one", []file{{s1, "", recs(1, 3)}}, []file{{s1, recs(1, 3), ""}}, 1, 4, "1", "1 2 3"},
		{"loose ones", []file{{s1, rec(1, "1"), rec(2, "2")}, {s5, recs(5, 6), ""}, {s9, "", rec(9, "9")}}, []file{{s1, recs(1, 2), ""}, {s5, recs(5, 6), ""}, {s9, rec(9, "9"), ""}}, 2, 10, "1 5 9", "1 2 5 6 9"},
		{"a temporary file", []file{{"t0", "x", "y"}, {s1, recs(1, 2), ""}}, []file{{s1, recs(1, 2), ""}}, 1, 3, "1", "1 2"},
		{"a temporary file alone", []file{{"t0", "", ""}}, []file{{s1, "", ""}}, 2, 1, "1", ""},
		{"other files",
			[]file{{"t1", "x", "y"}, {"t", "x", "y"}, {"t00", "x", ""}, {"book", "x", "y"}, {"s0-1", "x", ""}, {"s1-0000000000002", "x", "y"}, {"s0-0000000000000", "x", "y"}, {s1 + ".", "x", ""}, {s5, "", ""}},
			[]file{{"t1", "x", "y"}, {"t", "x", "y"}, {"t00", "x", ""}, {"book", "x", "y"}, {"s0-1", "x", ""}, {"s1-0000000000002", "x", "y"}, {"s0-0000000000000", "x", "y"}, {s1 + ".", "x", ""}, {s5, "", ""}}, 0, 5, "5", ""},
		{"a torn end", []file{{s1, recs(1, 3) + torn, ""}}, []file{{s1, recs(1, 3), ""}}, 2, 4, "1", "1 2 3"},
		{"a torn loose end", []file{{s1, rec(1, "1"), rec(2, "2") + torn}}, []file{{s1, recs(1, 2), ""}}, 2, 3, "1", "1 2"},
		{"nothing whole", []file{{s5, "x", ""}}, []file{{s5, "", ""}}, 2, 5, "5", ""},
		{"a number below the first one", []file{{s5, recs(4, 6), ""}}, []file{{s5, "", ""}}, 2, 5, "5", ""},
		{"numbers that do not rise", []file{{s5, rec(5, "5") + rec(5, "5") + rec(6, "6"), ""}, {s9, "", ""}}, []file{{s5, rec(5, "5"), ""}}, 3, 6, "5", "5"},
		{"a torn first one", []file{{s1, recs(1, 3) + torn, ""}, {s5, recs(5, 6), ""}, {s9, rec(9, "9"), ""}}, []file{{s1, recs(1, 3), ""}}, 4, 4, "1", "1 2 3"},
		{"a torn second one", []file{{s1, recs(1, 3), ""}, {s5, torn, ""}, {s9, rec(9, "9"), "loose"}}, []file{{s1, recs(1, 3), ""}, {s5, "", ""}}, 3, 5, "1 5", "1 2 3"},
		{"a first number that is not above", []file{{s1, recs(1, 5), ""}, {s5, recs(6, 8), ""}, {s9, rec(9, "9"), ""}}, []file{{s1, recs(1, 5), ""}, {s9, rec(9, "9"), ""}}, 1, 10, "1 9", "1 2 3 4 5 9"},
		{"a first number right above", []file{{s1, recs(1, 4), ""}, {s5, recs(6, 8), ""}}, []file{{s1, recs(1, 4), ""}, {s5, recs(6, 8), ""}}, 0, 9, "1 5", "1 2 3 4 6 7 8"},
		{"not above one that is further ahead", []file{{s1, recs(1, 9), ""}, {s5, "", ""}, {s9, rec(9, "9"), ""}, {sA, "", ""}}, []file{{s1, recs(1, 9), ""}, {sA, "", ""}}, 2, 10, "1 10", "1 2 3 4 5 6 7 8 9"},
		{"one that goes has no records ahead of another one", []file{{s1, recs(1, 5), ""}, {s5, recs(5, 20), ""}, {s9, recs(9, 10), ""}}, []file{{s1, recs(1, 5), ""}, {s9, recs(9, 10), ""}}, 1, 11, "1 9", "1 2 3 4 5 9 10"},
		{"one that goes, and is torn, lets another one stay", []file{{s1, recs(1, 5), ""}, {s5, torn, ""}, {s9, recs(9, 10), ""}}, []file{{s1, recs(1, 5), ""}, {s9, recs(9, 10), ""}}, 1, 11, "1 9", "1 2 3 4 5 9 10"},
		{"empty ones", []file{{s1, "", ""}, {s5, "", ""}, {s9, "", ""}}, []file{{s1, "", ""}, {s5, "", ""}, {s9, "", ""}}, 0, 9, "1 5 9", ""},
		{"empty ones behind records", []file{{s1, recs(1, 3), ""}, {s5, "", ""}, {s9, "", ""}}, []file{{s1, recs(1, 3), ""}, {s5, "", ""}, {s9, "", ""}}, 0, 9, "1 5 9", "1 2 3"},
		{"more records than a segment has", []file{{s1, recs(1, 12), ""}}, []file{{s1, recs(1, 12), ""}}, 0, 13, "1", "1 2 3 4 5 6 7 8 9 10 11 12"},
		{"records far behind the first number", []file{{s1, recs(300, 301), ""}}, []file{{s1, recs(300, 301), ""}}, 0, 302, "1", "300 301"},
		{"the last segment that may be", []file{{"s0-1099511627776", "", ""}}, []file{{"s0-1099511627776", "", ""}}, 0, top, "1099511627776", ""},
		{"the last record that may be", []file{{s1, rec(top, "1099511627776"), ""}}, []file{{s1, rec(top, "1099511627776"), ""}}, 0, top + 1, "1", "1099511627776"},
	}
}

func TestOpenOfWhatIsFound(t *testing.T) {
	for _, x := range whatIsFound() {
		t.Run(x.name, func(t *testing.T) {
			d := made(t, x.ahead...)
			l := opened(t, d, 0)
			has(t, l, x.next, x.next-1, x.segments, x.records)
			stands(t, d, x.behind...)
			if l.Over() {
				t.Error("over")
			}
			if n := changes(t, func() *disk.Disk { return made(t, x.ahead...) }, opens); n != x.changes {
				t.Errorf("%d changes, not %d", n, x.changes)
			}
			again := opened(t, d, 0)
			has(t, again, x.next, x.next-1, x.segments, x.records)
			stands(t, d, x.behind...)
		})
	}
}

// TestOrderOfAnOpen: the first changes are done, and none behind them.
func TestOrderOfAnOpen(t *testing.T) {
	a, b, c := recs(1, 2), recs(5, 6), recs(9, 10)
	ahead := []file{{"t0", "x", ""}, {s1, a, ""}, {s2, "x", ""}, {s5, b + "x", ""}, {s9, c, ""}, {sA, "", ""}}
	steps := [][]file{
		ahead,
		{{s1, a, ""}, {s2, "x", ""}, {s5, b + "x", ""}, {s9, c, ""}, {sA, "", ""}},
		{{s1, a, ""}, {s5, b + "x", ""}, {s9, c, ""}, {sA, "", ""}},
		{{s1, a, ""}, {s5, b, ""}, {s9, c, ""}, {sA, "", ""}},
		{{s1, a, ""}, {s5, b, ""}, {s9, c, ""}, {sA, "", ""}},
		{{s1, a, ""}, {s5, b, ""}, {sA, "", ""}},
		{{s1, a, ""}, {s5, b, ""}},
	}
	for n, want := range steps {
		d := made(t, ahead...)
		ok(t, d.Fuse(n))
		e := opens(d)
		if n < len(steps)-1 && e != api.ErrOff || n == len(steps)-1 && e != api.OK {
			t.Errorf("with a fuse of %d: %d", n, e)
		}
		ok(t, d.Crash(nil, nil))
		stands(t, d, want...)
	}
}

// TestACutIsSyncedAtOnce: ahead of what goes behind it, and of what is loose further ahead.
func TestACutIsSyncedAtOnce(t *testing.T) {
	a, b := recs(1, 2), recs(5, 6)
	for n, want := range [][]file{
		{{s1, "", ""}, {s5, "", ""}, {s9, "", ""}},
		{{s1, "", ""}, {s5, "", ""}, {s9, "", ""}},
		{{s1, "", ""}, {s5, b, ""}, {s9, "", ""}},
		{{s1, "", ""}, {s5, b, ""}},
		{{s1, a, ""}, {s5, b, ""}},
	} {
		d := made(t, file{s1, "", a}, file{s5, "", b + "x"}, file{s9, "", ""})
		ok(t, d.Fuse(n))
		opens(d)
		ok(t, d.Crash(nil, nil))
		stands(t, d, want...)
	}
}

// TestSyncsOfAnOpenRise: of several loose ones, the first one is synced first.
func TestSyncsOfAnOpenRise(t *testing.T) {
	ahead := []file{{s1, "", recs(1, 2)}, {s5, "", recs(5, 6)}, {s9, "", recs(9, 10)}}
	for n := range 4 {
		d := made(t, ahead...)
		ok(t, d.Fuse(n))
		opens(d)
		ok(t, d.Crash(nil, nil))
		want := slices.Clone(ahead)
		for i := range want {
			want[i].synced, want[i].loose = want[i].loose, ""
			if i >= n {
				want[i].synced = ""
			}
		}
		stands(t, d, want...)
	}
}

func TestOpenAgainMakesDurable(t *testing.T) {
	l, d := grown(t, 11)
	numbers(t, l, 12, 0, "1 9", len(recs(1, 11)))
	again := opened(t, d, 0)
	has(t, again, 12, 11, "1 9", "1 2 3 4 5 6 7 8 9 10 11")
	ok(t, d.Crash(nil, nil))
	has(t, opened(t, d, 0), 12, 11, "1 9", "1 2 3 4 5 6 7 8 9 10 11")
}

// logs answers what no Open made.
func logs() []*Log { return []*Log{nil, {}, new(Log)} }

func TestALogThatOpenDidNotMake(t *testing.T) {
	for _, l := range logs() {
		if l.Next() != 0 || l.Durable() != 0 || l.First() != 0 || len(l.Segments()) != 0 || l.Bytes() != 0 || l.Over() || len(l.Read(0, 9)) != 0 || len(l.Read(1, 0)) != 0 {
			t.Error("it tells something")
		}
		for _, data := range [][]byte{nil, []byte("x"), make([]byte, 1501)} {
			n, e := l.Append(data)
			if n != 0 {
				t.Error(n)
			}
			tells(t, "Append", e, api.ErrNil)
		}
		n, e := l.Rewrite([]uint64{1})
		if n != 0 {
			t.Error(n)
		}
		tells(t, "Rewrite", e, api.ErrNil)
		tells(t, "Sync", l.Sync(), api.ErrNil)
		tells(t, "Drop", l.Drop(0), api.ErrNil)
		tells(t, "Drop", l.Drop(9), api.ErrNil)
	}
}

// P13.2

func TestAppend(t *testing.T) {
	d := made(t)
	l := opened(t, d, 2)
	for i := range 20 {
		n, e := l.Append([]byte(strconv.Itoa(i + 1)))
		if n != uint64(i+1) || e != api.OK || l.Next() != n+1 || l.Durable() != 0 {
			t.Fatal(n, e, l.Next(), l.Durable())
		}
	}
	has(t, l, 21, 0, "1 9 17", "1 2 3 4 5 6 7 8 9 10 11 12 13 14 15 16 17 18 19 20")
	stands(t, d, file{"s2-0000000000001", recs(1, 8), ""}, file{"s2-0000000000009", recs(9, 16), ""}, file{"s2-0000000000017", "", recs(17, 20)})
}

func TestAppendOfEachLength(t *testing.T) {
	d := made(t)
	l := opened(t, d, 0)
	for size := range 1600 {
		data := slices.Repeat([]byte{byte(size)}, size)
		before, bytes := l.Next(), l.Bytes()
		n, e := l.Append(data)
		if size > 1500 {
			if n != 0 || e != api.ErrLong || l.Next() != before || l.Bytes() != bytes {
				t.Fatal(size, n, e)
			}
			continue
		}
		if n != before || e != api.OK || l.Bytes() != bytes+len(form(segment.Rec{N: n, Data: data})) {
			t.Fatal(size, n, e)
		}
		if got := l.Read(n, 2); len(got) != 1 || !segment.Same(got, []segment.Rec{{N: n, Data: data}}) {
			t.Fatal(size, got)
		}
	}
	n, e := l.Append(nil)
	if n != 1502 || e != api.OK || !segment.Same(l.Read(n, 9), []segment.Rec{{N: n}}) {
		t.Error(n, e)
	}
}

func TestAppendIsLoose(t *testing.T) {
	l, d := grown(t, 2)
	ok(t, l.Sync())
	grow(t, l, 3)
	stands(t, d, file{s1, recs(1, 2), rec(3, "3")})
}

// TestStepsOfAnAppend: a roll syncs the last segment, then makes one; the record is behind it.
func TestStepsOfAnAppend(t *testing.T) {
	for _, x := range []struct{ records, want int }{{0, 1}, {1, 1}, {7, 1}, {8, 3}, {9, 1}, {15, 1}, {16, 3}} {
		var l *Log
		set := func() (d *disk.Disk) {
			l, d = grown(t, x.records)
			return d
		}
		n := changes(t, set, func(*disk.Disk) api.Errno {
			_, e := l.Append([]byte("x"))
			return e
		})
		if n != x.want {
			t.Errorf("behind %d records: %d changes, not %d", x.records, n, x.want)
		}
	}
	whole, seven := recs(1, 8), recs(1, 7)
	for n, want := range [][]file{
		{{s1, seven, ""}}, {{s1, whole, ""}}, {{s1, whole, ""}, {s9, "", ""}}, {{s1, whole, ""}, {s9, "", ""}},
	} {
		l, d := grown(t, 7)
		ok(t, l.Sync())
		grow(t, l, 8)
		ok(t, d.Fuse(n))
		got, e := l.Append([]byte("9"))
		if n < 3 && (got != 0 || e != api.ErrOff || !l.Over()) || n == 3 && (got != 9 || e != api.OK) {
			t.Fatal(n, got, e)
		}
		numbers(t, l, max(9, got+1), 7, []string{"1", "1", "1 9", "1 9"}[n], len(recs(1, max(8, got))))
		ok(t, d.Crash(nil, nil))
		stands(t, d, want...)
	}
}

// TestAppendWithoutRoom: a roll that was done stays, and the next one goes on behind it.
func TestAppendWithoutRoom(t *testing.T) {
	l, d := grown(t, 8)
	ok(t, d.Quota(d.Used()+9))
	for range 2 {
		n, e := l.Append([]byte("9"))
		if n != 0 || e != api.ErrFull {
			t.Fatal(n, e)
		}
		has(t, l, 9, 0, "1 9", "1 2 3 4 5 6 7 8")
		stands(t, d, file{s1, recs(1, 8), ""}, file{s9, "", ""})
	}
	ok(t, d.Quota(plenty))
	grow(t, l, 10)
	has(t, l, 11, 0, "1 9", "1 2 3 4 5 6 7 8 9 10")
	ok(t, d.Quota(0))
	n, e := l.Append(nil)
	if n != 0 || e != api.ErrFull || l.Over() {
		t.Error(n, e)
	}
	has(t, l, 11, 0, "1 9", "1 2 3 4 5 6 7 8 9 10")
}

func TestAppendWithoutAFile(t *testing.T) {
	l, d := grown(t, 8)
	for i := range 511 {
		ok(t, d.Create(fmt.Sprintf("f%d", i)))
	}
	for range 2 {
		n, e := l.Append([]byte("9"))
		if n != 0 || e != api.ErrFull {
			t.Fatal(n, e)
		}
		has(t, l, 9, 0, "1", "1 2 3 4 5 6 7 8")
		if d.Loose(s1) != 0 {
			t.Error("a roll syncs first")
		}
	}
	ok(t, d.Remove("f7"))
	grow(t, l, 9)
	has(t, l, 10, 0, "1 9", "1 2 3 4 5 6 7 8 9")
}

func TestAppendAtTheTop(t *testing.T) {
	d := made(t, file{"s0-1099511627775", "", ""})
	l := opened(t, d, 0)
	for _, n := range []uint64{top - 1, top} {
		if got, e := l.Append([]byte("x")); got != n || e != api.OK {
			t.Fatal(got, e)
		}
	}
	for _, x := range []struct {
		size int
		want api.Errno
	}{{0, api.ErrArg}, {1500, api.ErrArg}, {1501, api.ErrLong}} {
		n, e := l.Append(make([]byte, x.size))
		if n != 0 || e != x.want {
			t.Errorf("%d bytes: %d, %d, not %d", x.size, n, e, x.want)
		}
	}
	has(t, l, top+1, top-2, "1099511627775", "1099511627775:x 1099511627776:x")
	ok(t, l.Sync())
	ok(t, d.Crash(nil, nil))
	l = opened(t, d, 0)
	_, e := l.Append(nil)
	tells(t, "Append", e, api.ErrArg)
	has(t, l, top+1, top, "1099511627775", "1099511627775:x 1099511627776:x")
}

// TestAppendAtTheTopOfAFullSegment: what may not be appended makes no roll.
func TestAppendAtTheTopOfAFullSegment(t *testing.T) {
	b := rec(1, "1") + rec(2, "2") + rec(3, "3") + rec(4, "4") + rec(5, "5") + rec(6, "6") + rec(7, "7") + rec(top, "x")
	d := made(t, file{s1, b, ""})
	l := opened(t, d, 0)
	ok(t, d.Fuse(0))
	_, e := l.Append(nil)
	tells(t, "Append", e, api.ErrArg)
	_, e = l.Append(make([]byte, 1501))
	tells(t, "Append", e, api.ErrLong)
	if l.Over() || d.Off() {
		t.Error("a change of the disk")
	}
	ok(t, d.Fuse(-1))
	stands(t, d, file{s1, b, ""})
}

// TestAppendBehindMoreThanASegmentHas: of a segment that has more records than one has, too, it rolls.
func TestAppendBehindMoreThanASegmentHas(t *testing.T) {
	d := made(t, file{s1, recs(1, 11), ""})
	l := opened(t, d, 0)
	grow(t, l, 12)
	has(t, l, 13, 11, "1 12", "1 2 3 4 5 6 7 8 9 10 11 12")
}

// TestRollsCountRecords: eight records, not eight numbers, fill a segment.
func TestRollsCountRecords(t *testing.T) {
	l, d := grown(t, 6)
	n, e := l.Rewrite([]uint64{1, 2, 4})
	if n != 3 || e != api.OK {
		t.Fatal(n, e)
	}
	grow(t, l, 11)
	has(t, l, 12, 6, "1", "3 5 6 7 8 9 10 11")
	l = opened(t, d, 0)
	grow(t, l, 13)
	has(t, l, 14, 11, "1 12", "3 5 6 7 8 9 10 11 12 13")
}

// P13.3

func TestSync(t *testing.T) {
	l, d := grown(t, 3)
	ok(t, l.Sync())
	has(t, l, 4, 3, "1", "1 2 3")
	stands(t, d, file{s1, recs(1, 3), ""})
	grow(t, l, 12)
	numbers(t, l, 13, 3, "1 9", len(recs(1, 12)))
	ok(t, l.Sync(), l.Sync())
	has(t, l, 13, 12, "1 9", "1 2 3 4 5 6 7 8 9 10 11 12")
	stands(t, d, file{s1, recs(1, 8), ""}, file{s9, recs(9, 12), ""})
}

// TestSyncOfNothingNew: the last segment is synced, whatever is loose.
func TestSyncOfNothingNew(t *testing.T) {
	l, d := grown(t, 0)
	ok(t, l.Sync())
	numbers(t, l, 1, 0, "1", 0)
	ok(t, d.Fuse(0))
	tells(t, "Sync", l.Sync(), api.ErrOff)
	numbers(t, l, 1, 0, "1", 0)
}

func TestSyncThatFails(t *testing.T) {
	l, d := grown(t, 2)
	ok(t, d.Fuse(0))
	tells(t, "Sync", l.Sync(), api.ErrOff)
	if l.Durable() != 0 || !l.Over() {
		t.Error(l.Durable(), l.Over())
	}
	l, d = grown(t, 2)
	ok(t, d.Remove(s1))
	tells(t, "Sync", l.Sync(), api.ErrNone)
	if l.Durable() != 0 || l.Over() {
		t.Error(l.Durable(), l.Over())
	}
}

// P13.4

func TestRead(t *testing.T) {
	l, _ := grown(t, 20)
	ok(t, l.Sync())
	n, e := l.Rewrite([]uint64{2, 9, 10, 11, 12, 13, 14, 15, 16, 18})
	if n != 10 || e != api.OK {
		t.Fatal(n, e)
	}
	grow(t, l, 22)
	all := []uint64{1, 3, 4, 5, 6, 7, 8, 17, 19, 20, 21, 22}
	for from := range uint64(26) {
		for most := -1; most < 15; most++ {
			var want []string
			for _, n := range all {
				if n >= from && len(want) < most {
					want = append(want, strconv.FormatUint(n, 10))
				}
			}
			if got := text(l.Read(from, most)); got != strings.Join(want, " ") {
				t.Fatalf("Read(%d, %d): %s, not %v", from, most, got, want)
			}
		}
	}
	for _, most := range []int{math.MinInt, -1, 0} {
		if got := l.Read(1, most); len(got) != 0 {
			t.Error(most, got)
		}
	}
	for _, from := range []uint64{23, top, top + 1, math.MaxUint64} {
		if got := l.Read(from, math.MaxInt); len(got) != 0 {
			t.Error(from, got)
		}
	}
}

func TestReadOfWhatIsNotDurable(t *testing.T) {
	l, _ := grown(t, 9)
	if got := text(l.Read(7, 99)); got != "7 8 9" || l.Durable() != 0 {
		t.Error(got)
	}
}

// TestReadWithThePowerOff: what it was told by, too, ends a log.
func TestReadWithThePowerOff(t *testing.T) {
	l, d := grown(t, 3)
	ok(t, d.Fuse(0))
	d.Create("x")
	if l.Over() {
		t.Error("nobody told it")
	}
	if got := l.Read(1, 9); len(got) != 0 || !l.Over() {
		t.Error(got, l.Over())
	}
	ok(t, d.Crash([]uint16{math.MaxUint16}, nil))
	tells(t, "Sync", l.Sync(), api.ErrOff)
}

// P13.5

func TestDropOfTheChapter(t *testing.T) {
	l, d := grown(t, 9)
	ok(t, l.Drop(9))
	has(t, l, 10, 0, "9", "9")
	stands(t, d, file{s9, "", rec(9, "9")})
	ok(t, l.Drop(10))
	has(t, l, 10, 0, "10", "")
	stands(t, d, file{name: sA})
	ok(t, l.Drop(10), l.Drop(math.MaxUint64))
	has(t, l, 10, 0, "10", "")
	grow(t, l, 10)
	has(t, l, 11, 0, "10", "10")
}

func TestDropOfEachNumber(t *testing.T) {
	for before := range uint64(30) {
		l, d := grown(t, 20)
		ok(t, l.Sync())
		steps := 0
		switch {
		case before < 9:
			has(t, after(t, l, before), 21, 20, "1 9 17", text(l.Read(1, 99)))
		case before < 17:
			has(t, after(t, l, before), 21, 20, "9 17", "9 10 11 12 13 14 15 16 17 18 19 20")
			steps = 1
		case before == 21:
			has(t, after(t, l, before), 21, 20, "21", "")
			steps = 5
		default:
			has(t, after(t, l, before), 21, 20, "17", "17 18 19 20")
			steps = 2
		}
		set := func() *disk.Disk {
			l, d = grown(t, 20)
			return d
		}
		if n := changes(t, set, func(*disk.Disk) api.Errno { return l.Drop(before) }); n != steps {
			t.Errorf("Drop(%d): %d changes, not %d", before, n, steps)
		}
	}
}

// after drops, and answers the log.
func after(t *testing.T, l *Log, before uint64) *Log {
	t.Helper()
	ok(t, l.Drop(before))
	return l
}

// TestDropOfASegmentWithoutRecords: all of its none are below any number, if there is another segment.
func TestDropOfASegmentWithoutRecords(t *testing.T) {
	d := made(t, file{s1, "", ""}, file{s5, "", ""}, file{s9, recs(9, 10), ""})
	l := opened(t, d, 0)
	ok(t, l.Drop(0))
	has(t, l, 11, 10, "9", "9 10")
	d = made(t, file{s1, rec(2, "2"), ""}, file{s5, "", ""}, file{s9, "", ""})
	l = opened(t, d, 0)
	ok(t, l.Drop(2))
	has(t, l, 9, 8, "1 5 9", "2")
	ok(t, l.Drop(3))
	has(t, l, 9, 8, "9", "")
	ok(t, l.Drop(3), l.Drop(9))
	has(t, l, 9, 8, "9", "")
	stands(t, d, file{name: s9})
}

// TestDropOfAGapInTheNumbers: it is the records that must be below, not the numbers up to the next segment.
func TestDropOfAGapInTheNumbers(t *testing.T) {
	l, _ := grown(t, 10)
	n, e := l.Rewrite([]uint64{6, 7, 8})
	if n != 3 || e != api.OK {
		t.Fatal(n, e)
	}
	ok(t, l.Drop(5))
	has(t, l, 11, 10, "1 9", "1 2 3 4 5 9 10")
	ok(t, l.Drop(6))
	has(t, l, 11, 10, "9", "9 10")
}

// TestDropKeepsDurable: a roll is no Sync.
func TestDropKeepsDurable(t *testing.T) {
	l, _ := grown(t, 3)
	ok(t, l.Sync())
	grow(t, l, 5)
	ok(t, l.Drop(6))
	has(t, l, 6, 3, "6", "")
	ok(t, l.Sync())
	has(t, l, 6, 5, "6", "")
}

func TestStepsOfADrop(t *testing.T) {
	a, b, c := recs(1, 8), recs(9, 16), recs(17, 18)
	s17, s19 := "s0-0000000000017", "s0-0000000000019"
	for n, x := range []struct {
		segments string
		bytes    string
		want     []file
	}{
		{"1 9 17", a + b + c, []file{{s1, a, ""}, {s9, b, ""}, {s17, "", ""}}},
		{"9 17", b + c, []file{{s9, b, ""}, {s17, "", ""}}},
		{"17", c, []file{{s17, "", ""}}},
		{"17", c, []file{{s17, c, ""}}},
		{"17 19", c, []file{{s17, c, ""}, {s19, "", ""}}},
		{"19", "", []file{{s19, "", ""}}},
	} {
		l, d := grown(t, 18)
		ok(t, d.Fuse(n))
		e := l.Drop(19)
		if n < 5 && (e != api.ErrOff || !l.Over()) || n == 5 && e != api.OK {
			t.Fatal(n, e)
		}
		numbers(t, l, 19, 0, x.segments, len(x.bytes))
		ok(t, d.Crash(nil, nil))
		stands(t, d, x.want...)
	}
}

func TestDropAtTheTop(t *testing.T) {
	d := made(t, file{s1, rec(4, "4"), ""}, file{s5, rec(top, ""), ""})
	l := opened(t, d, 0)
	tells(t, "Drop", l.Drop(top+1), api.ErrArg)
	has(t, l, top+1, top, "5", "1099511627776:")
	tells(t, "Drop", l.Drop(top+2), api.OK)
	tells(t, "Drop", l.Drop(math.MaxUint64), api.OK)
	tells(t, "Drop", l.Drop(top), api.OK)
	has(t, l, top+1, top, "5", "1099511627776:")
	stands(t, d, file{s5, rec(top, ""), ""})
	if l.Over() {
		t.Error("over")
	}
}

func TestDropWithoutAFile(t *testing.T) {
	l, d := grown(t, 3)
	for i := range 511 {
		ok(t, d.Create(fmt.Sprintf("f%d", i)))
	}
	tells(t, "Drop", l.Drop(4), api.ErrFull)
	has(t, l, 4, 0, "1", "1 2 3")
	ok(t, d.Remove("f0"), l.Drop(4))
	has(t, l, 4, 0, "4", "")
}

// P13.6

func TestRewrite(t *testing.T) {
	for _, x := range []struct {
		records int
		without []uint64
		went    int
		steps   int
		left    string
	}{
		{0, nil, 0, 1, ""}, {0, []uint64{0, 1, 2}, 0, 1, ""}, {3, nil, 0, 1, "1 2 3"}, {3, []uint64{3}, 0, 1, "1 2 3"}, {1, []uint64{1}, 0, 1, "1"},
		{3, []uint64{1}, 1, 5, "2 3"}, {3, []uint64{2, 1}, 2, 5, "3"}, {3, []uint64{1, 2, 3}, 2, 5, "3"}, {3, []uint64{0, 4, 5, top, math.MaxUint64}, 0, 1, "1 2 3"},
		{3, []uint64{2, 2, 2, 9, 2}, 1, 5, "1 3"}, {12, []uint64{10}, 1, 5, "1 2 3 4 5 6 7 8 9 11 12"}, {12, []uint64{8}, 1, 5, "1 2 3 4 5 6 7 9 10 11 12"},
		{12, []uint64{9, 8}, 2, 9, "1 2 3 4 5 6 7 10 11 12"}, {12, []uint64{12, 1, 2, 3, 4, 5, 6, 7, 8}, 8, 4, "9 10 11 12"},
		{17, []uint64{17, 16, 15, 14, 13, 12, 11, 10, 9, 4}, 9, 8, "1 2 3 5 6 7 8 17"}, {16, []uint64{16}, 0, 1, "1 2 3 4 5 6 7 8 9 10 11 12 13 14 15 16"},
	} {
		l, d := grown(t, x.records)
		segments := strings.Trim(fmt.Sprint(l.Segments()), "[]")
		n, e := l.Rewrite(x.without)
		if n != x.went || e != api.OK {
			t.Errorf("%d records without %v: %d, %d, not %d", x.records, x.without, n, e, x.went)
		}
		has(t, l, uint64(x.records+1), uint64(x.records), segments, x.left)
		if l.Over() || len(d.Names()) != len(l.Segments()) {
			t.Error(d.Names())
		}
		ok(t, d.Crash(nil, nil))
		has(t, opened(t, d, 0), uint64(x.records+1), uint64(x.records), segments, x.left)
		set := func() *disk.Disk {
			l, d = grown(t, x.records)
			return d
		}
		steps := changes(t, set, func(*disk.Disk) api.Errno {
			_, e := l.Rewrite(x.without)
			return e
		})
		if steps != x.steps {
			t.Errorf("%d records without %v: %d changes, not %d", x.records, x.without, steps, x.steps)
		}
	}
}

// TestRewriteAheadOfAnEmptySegment: the last record of all stays, in whichever segment it is.
func TestRewriteAheadOfAnEmptySegment(t *testing.T) {
	d := made(t, file{s1, recs(1, 3), ""}, file{s5, recs(5, 7), ""}, file{s9, "", ""}, file{sA, "", ""})
	l := opened(t, d, 0)
	n, e := l.Rewrite([]uint64{1, 2, 3, 4, 5, 6, 7, 8, 9, 10})
	if n != 5 || e != api.OK {
		t.Error(n, e)
	}
	has(t, l, 10, 9, "1 5 9 10", "7")
	stands(t, d, file{name: s1}, file{s5, rec(7, "7"), ""}, file{name: s9}, file{name: sA})
}

// TestRewriteTwice: what went does not count again.
func TestRewriteTwice(t *testing.T) {
	l, _ := grown(t, 10)
	for i, want := range []int{3, 0, 2} {
		n, e := l.Rewrite([][]uint64{{1, 2, 9}, {1, 2, 9, 10}, {1, 2, 3, 8}}[i])
		if n != want || e != api.OK {
			t.Error(i, n, e)
		}
	}
	has(t, l, 11, 10, "1 9", "4 5 6 7 10")
	grow(t, l, 11)
	n, e := l.Rewrite([]uint64{10, 11})
	if n != 1 || e != api.OK {
		t.Error(n, e)
	}
	has(t, l, 12, 11, "1 9", "4 5 6 7 11")
}

// TestStepsOfARewrite: a Sync, then of each segment the temporary file, its bytes, a sync and a new name.
func TestStepsOfARewrite(t *testing.T) {
	a, b := recs(1, 8), recs(9, 10)
	less := recs(5, 8)
	for n, x := range []struct {
		durable uint64
		bytes   string
		want    []file
	}{
		{0, a + b, []file{{s1, a, ""}, {s9, "", ""}}},
		{10, a + b, []file{{s1, a, ""}, {s9, b, ""}}},
		{10, a + b, []file{{"t0", "", ""}, {s1, a, ""}, {s9, b, ""}}},
		{10, a + b, []file{{"t0", "", ""}, {s1, a, ""}, {s9, b, ""}}},
		{10, a + b, []file{{"t0", less, ""}, {s1, a, ""}, {s9, b, ""}}},
		{10, less + b, []file{{s1, less, ""}, {s9, b, ""}}},
		{10, less + b, []file{{"t0", "", ""}, {s1, less, ""}, {s9, b, ""}}},
		{10, less + b, []file{{"t0", "", ""}, {s1, less, ""}, {s9, b, ""}}},
		{10, less + b, []file{{"t0", rec(10, "10"), ""}, {s1, less, ""}, {s9, b, ""}}},
		{10, less + rec(10, "10"), []file{{s1, less, ""}, {s9, rec(10, "10"), ""}}},
	} {
		l, d := grown(t, 10)
		ok(t, d.Fuse(n))
		went, e := l.Rewrite([]uint64{1, 2, 3, 4, 9, 10})
		if n < 9 && (went != 0 || e != api.ErrOff || !l.Over()) || n == 9 && (went != 5 || e != api.OK) {
			t.Fatal(n, went, e)
		}
		numbers(t, l, 11, x.durable, "1 9", len(x.bytes))
		ok(t, d.Crash(nil, nil))
		stands(t, d, x.want...)
		l = opened(t, d, 0)
		if slices.Contains(d.Names(), "t0") {
			t.Error("the temporary file stays")
		}
	}
}

// TestRewriteWithoutRoom: what was laid anew ahead of the error stays, the temporary file goes.
func TestRewriteWithoutRoom(t *testing.T) {
	long := strings.Repeat("x", 50)
	for _, fuse := range []int{-1, 6, 7} {
		l, d := grown(t, 8)
		_, e := l.Append([]byte(long))
		ok(t, e)
		_, e = l.Append([]byte(long))
		ok(t, e)
		grow(t, l, 18)
		ok(t, d.Quota(d.Used()+len(recs(1, 2))), d.Fuse(fuse))
		n, e := l.Rewrite([]uint64{3, 4, 5, 6, 7, 8, 16})
		if n != 0 || e != api.ErrFull {
			t.Fatal(n, e)
		}
		second := rec(9, long) + rec(10, long) + recs(11, 16)
		numbers(t, l, 19, 18, "1 9 17", len(recs(1, 2)+second+recs(17, 18)))
		if l.Over() != (fuse == 6) {
			t.Error(fuse, l.Over())
		}
		ok(t, d.Crash(nil, nil))
		want := []file{{s1, recs(1, 2), ""}, {s9, second, ""}, {"s0-0000000000017", recs(17, 18), ""}}
		if fuse == 6 {
			want = append(want, file{name: "t0"})
		}
		stands(t, d, want...)
		has(t, opened(t, d, 0), 19, 18, "1 9 17", "1 2 9:"+long+" 10:"+long+" 11 12 13 14 15 16 17 18")
	}
}

func TestRewriteWithoutAFile(t *testing.T) {
	l, d := grown(t, 3)
	for i := range 511 {
		ok(t, d.Create(fmt.Sprintf("f%d", i)))
	}
	n, e := l.Rewrite([]uint64{1})
	if n != 0 || e != api.ErrFull {
		t.Error(n, e)
	}
	has(t, l, 4, 3, "1", "1 2 3")
	n, e = l.Rewrite([]uint64{9})
	if n != 0 || e != api.OK {
		t.Error(n, e)
	}
}

// TestRewriteWithATemporaryFileThere: it is told, and behind that it goes.
func TestRewriteWithATemporaryFileThere(t *testing.T) {
	l, d := grown(t, 3)
	ok(t, d.Create("t0"))
	n, e := l.Rewrite([]uint64{1})
	if n != 0 || e != api.ErrThere {
		t.Error(n, e)
	}
	stands(t, d, file{s1, recs(1, 3), ""})
	n, e = l.Rewrite([]uint64{1})
	if n != 1 || e != api.OK {
		t.Error(n, e)
	}
	has(t, l, 4, 3, "1", "2 3")
}

func TestRewriteOfOtherPlaces(t *testing.T) {
	d := made(t)
	var l []*Log
	for place := range 4 {
		l = append(l, opened(t, d, place))
		grow(t, l[place], 10)
	}
	n, e := l[3].Rewrite([]uint64{1, 9})
	if n != 2 || e != api.OK {
		t.Error(n, e)
	}
	ok(t, l[2].Drop(9))
	has(t, l[0], 11, 0, "1 9", "1 2 3 4 5 6 7 8 9 10")
	has(t, l[1], 11, 0, "1 9", "1 2 3 4 5 6 7 8 9 10")
	has(t, l[2], 11, 0, "9", "9 10")
	has(t, l[3], 11, 10, "1 9", "2 3 4 5 6 7 8 10")
}

// A log that is over

// overs answers calls that make a change, by their names.
func overs() map[string]func(l *Log) api.Errno {
	return map[string]func(l *Log) api.Errno{
		"Append": func(l *Log) api.Errno {
			n, e := l.Append([]byte("x"))
			if n != 0 {
				panic("a number beside an error")
			}
			return e
		},
		"a long Append": func(l *Log) api.Errno {
			n, e := l.Append(make([]byte, 1501))
			if n != 0 {
				panic("a number beside an error")
			}
			return e
		},
		"Sync":          func(l *Log) api.Errno { return l.Sync() },
		"Drop":          func(l *Log) api.Errno { return l.Drop(l.Next()) },
		"an empty Drop": func(l *Log) api.Errno { return l.Drop(0) },
		"Rewrite": func(l *Log) api.Errno {
			n, e := l.Rewrite([]uint64{1})
			if n != 0 {
				panic("a count beside an error")
			}
			return e
		},
	}
}

// TestOver: behind one ErrOff all is over, though the power comes back; what the log was is told on.
func TestOver(t *testing.T) {
	for name, call := range overs() {
		if name == "a long Append" || name == "an empty Drop" {
			continue
		}
		for _, records := range []int{2, 8, 10} {
			l, d := grown(t, records)
			segments, bytes, next := strings.Trim(fmt.Sprint(l.Segments()), "[]"), l.Bytes(), l.Next()
			ok(t, d.Fuse(0))
			tells(t, name, call(l), api.ErrOff)
			for range 2 {
				for other, c := range overs() {
					tells(t, other+" behind "+name, c(l), api.ErrOff)
				}
				if got := l.Read(0, 99); !l.Over() || len(got) != 0 {
					t.Error(name, l.Over(), got)
				}
				numbers(t, l, next, 0, segments, bytes)
				ok(t, d.Crash([]uint16{math.MaxUint16}, nil))
			}
			ok(t, d.Fuse(0))
			for _, c := range overs() {
				c(l)
			}
			if d.Off() {
				t.Error("a log that is over changes the disk")
			}
			ok(t, d.Fuse(-1))
			again := opened(t, d, 0)
			if again.Over() {
				t.Error("over")
			}
		}
	}
}

// TestOtherErrorsEndNothing: but for ErrOff, the log goes on.
func TestOtherErrorsEndNothing(t *testing.T) {
	l, d := grown(t, 3)
	ok(t, d.Quota(0))
	_, e := l.Append(nil)
	tells(t, "Append", e, api.ErrFull)
	_, e = l.Rewrite([]uint64{1})
	tells(t, "Rewrite", e, api.ErrFull)
	_, e = l.Append(make([]byte, 1501))
	tells(t, "Append", e, api.ErrLong)
	ok(t, d.Quota(plenty))
	if l.Over() {
		t.Error("over")
	}
	grow(t, l, 4)
	has(t, l, 5, 3, "1", "1 2 3 4")
}

// TestChangesOfOthersOnTheDisk: what is gone from under a log is told by the disk.
func TestChangesOfOthersOnTheDisk(t *testing.T) {
	l, d := grown(t, 10)
	ok(t, d.Remove(s9), d.Remove(s1))
	_, e := l.Append(nil)
	tells(t, "Append", e, api.ErrNone)
	tells(t, "Sync", l.Sync(), api.ErrNone)
	tells(t, "Drop", l.Drop(9), api.ErrNone)
	_, e = l.Rewrite([]uint64{1})
	tells(t, "Rewrite", e, api.ErrNone)
	if got := l.Read(1, 99); len(got) != 0 {
		t.Error(got)
	}
	l, d = grown(t, 10)
	ok(t, d.Remove(s1))
	n, e := l.Rewrite([]uint64{1, 9})
	if n != 0 {
		t.Error(n)
	}
	tells(t, "Rewrite", e, api.ErrNone)
	numbers(t, l, 11, 10, "1 9", len(recs(1, 10)))
}

// Whatever is handed in is only read, and what is told is new memory.

func TestMemory(t *testing.T) {
	l, d := grown(t, 3)
	data := append(make([]byte, 0, 64), "four"...)
	n, e := l.Append(data)
	if n != 4 || e != api.OK || string(data[:8]) != "four\x00\x00\x00\x00" {
		t.Fatal(n, e, data)
	}
	copy(data, "****")
	without := []uint64{9, 2, 1, 2}
	if n, e := l.Rewrite(without); n != 2 || e != api.OK || !slices.Equal(without, []uint64{9, 2, 1, 2}) {
		t.Error(n, e, without)
	}
	for range 2 {
		got := l.Read(1, 9)
		for i := range got {
			whole := got[i].Data[:cap(got[i].Data)]
			for j := range whole {
				whole[j] = '!'
			}
			if i == 0 && string(got[1].Data) != "four" {
				t.Error("two answers share memory")
			}
			got[i].N = 99
		}
		segments := l.Segments()
		segments = append(segments[:1], 7, 8)
		segments[0] = 99
	}
	has(t, l, 5, 4, "1", "3 4:four")
	stands(t, d, file{s1, rec(3, "3") + rec(4, "four"), ""})
}

// P13.7, P13.8

func TestExamplesOfTheChapter(t *testing.T) {
	d := made(t)
	l := opened(t, d, 0)
	if n, e := l.Append([]byte("a")); n != 1 || e != api.OK {
		t.Fatal(n, e)
	}
	ok(t, l.Sync())
	if n, e := l.Append([]byte("b")); n != 2 || e != api.OK {
		t.Fatal(n, e)
	}
	ok(t, d.Crash(nil, nil))
	has(t, opened(t, d, 0), 2, 1, "1", "1:a")
}

// story is a log that lives through crashes, and what is known of it.
type story struct {
	t       *testing.T
	r       *rand.Rand
	d       *disk.Disk
	l       *Log
	durable uint64        // the greatest number that ever was durable
	had     []segment.Rec // ahead of the last call
	under   segment.Rec   // what the last call wanted to append
	may     func(n uint64) bool
	was     uint64 // durable ahead of the last call
}

// call does something, and tells whether the power went.
func (s *story) call() bool {
	s.had, s.was = s.l.Read(0, math.MaxInt), s.l.Durable()
	s.under, s.may = segment.Rec{}, func(uint64) bool { return false }
	e := api.OK
	switch n := s.r.Intn(12); {
	case n < 7:
		data := make([]byte, s.r.Intn(9))
		s.r.Read(data)
		s.under = segment.Rec{N: s.l.Next(), Data: data}
		var got uint64
		got, e = s.l.Append(data)
		if e == api.OK && (got != s.under.N || got <= s.durable) {
			s.t.Fatalf("Append: %d, %d was durable", got, s.durable)
		}
	case n < 9:
		e = s.l.Sync()
	case n < 10:
		low := s.l.First()
		before := low + uint64(s.r.Intn(int(s.l.Next()-low)+2))
		s.may = func(n uint64) bool { return n < before }
		e = s.l.Drop(before)
	default:
		var without []uint64
		for _, r := range s.had {
			if s.r.Intn(4) == 0 {
				without = append(without, r.N)
			}
		}
		last := s.l.Next() - 1
		s.may = func(n uint64) bool { return n != last && slices.Contains(without, n) }
		_, e = s.l.Rewrite(without)
	}
	if e != api.OK && e != api.ErrOff {
		s.t.Fatal(e)
	}
	if e == api.OK {
		s.durable = max(s.durable, s.l.Durable())
	}
	return e == api.ErrOff
}

// power takes it, and leaves whatever it likes of what is loose.
func (s *story) power() {
	picks, torn := make([]uint16, 6), make([]byte, s.r.Intn(6))
	for i := range picks {
		picks[i] = uint16(s.r.Intn(300))
	}
	s.r.Read(torn)
	s.d.Crash(picks, torn)
}

// back opens the log again, and holds what it has against what was known of it.
func (s *story) back() {
	for s.r.Intn(3) == 0 { // a crash in the midst of it
		s.d.Fuse(s.r.Intn(4))
		if l, e := Open(s.d, 1); e == api.OK != (l != nil) || e != api.OK && e != api.ErrOff {
			s.t.Fatal(e)
		}
		s.power()
	}
	s.l = opened(s.t, s.d, 1)
	got := s.l.Read(0, math.MaxInt)
	stays := func(l []segment.Rec, durable bool) []segment.Rec {
		return slices.DeleteFunc(slices.Clone(l), func(r segment.Rec) bool { return s.may(r.N) || (r.N <= s.was) != durable })
	}
	appended := s.had
	if s.under.N > 0 {
		appended = append(slices.Clone(s.had), s.under)
	}
	if !segment.Same(stays(got, true), stays(appended, true)) {
		s.t.Fatalf("%s, of %s, durable up to %d", text(got), text(appended), s.was)
	}
	behind, all := stays(got, false), stays(appended, false)
	if len(behind) > len(all) || !segment.Same(behind, all[:len(behind)]) {
		s.t.Fatalf("%s, of %s, durable up to %d", text(got), text(appended), s.was)
	}
	for _, r := range got {
		if !slices.ContainsFunc(appended, func(x segment.Rec) bool { return segment.Same([]segment.Rec{x}, []segment.Rec{r}) }) {
			s.t.Fatalf("%s, of %s", text(got), text(appended))
		}
	}
	if n := len(got); n > 0 && s.l.Next() <= got[n-1].N || s.l.Next() <= s.durable || s.l.Durable() != s.l.Next()-1 {
		s.t.Fatalf("Next %d, Durable %d, of %s; durable was %d", s.l.Next(), s.l.Durable(), text(got), s.durable)
	}
	s.durable = max(s.durable, s.l.Durable())
}

// again fails if an Open, or a crash and an Open, changes anything.
func (s *story) again() {
	for k := range 3 {
		before, next, segments := s.l.Read(0, math.MaxInt), s.l.Next(), s.l.Segments()
		switch k {
		case 1:
			s.power()
		case 2:
			s.d.Fuse(s.r.Intn(2))
			Open(s.d, 1)
			s.d.Fuse(-1)
		}
		s.l = opened(s.t, s.d, 1)
		if !segment.Same(before, s.l.Read(0, math.MaxInt)) || s.l.Next() != next || s.l.Durable() != next-1 || !slices.Equal(segments, s.l.Segments()) {
			s.t.Fatalf("%s, next %d, not %s, %d", text(s.l.Read(0, math.MaxInt)), s.l.Next(), text(before), next)
		}
	}
}

func TestRecovery(t *testing.T) {
	for seed := range int64(1500) {
		r := rand.New(rand.NewSource(seed))
		s := &story{t: t, r: r, d: made(t, file{s1, recs(1, 2), ""})}
		s.l = opened(t, s.d, 1)
		for range 8 {
			ok(t, s.d.Fuse(r.Intn(60)))
			calls := r.Intn(60)
			for calls > 0 && !s.call() {
				calls--
			}
			if calls == 0 { // the last call was done
				s.had, s.under, s.may, s.was = s.l.Read(0, math.MaxInt), segment.Rec{}, func(uint64) bool { return false }, s.l.Durable()
			}
			s.power()
			s.back()
			s.again()
		}
		stands(t, only(s.d, "s0-"), file{s1, recs(1, 2), ""})
	}
}

// only takes all files away whose names do not begin with that.
func only(d *disk.Disk, ahead string) *disk.Disk {
	for _, name := range d.Names() {
		if !strings.HasPrefix(name, ahead) {
			d.Remove(name)
		}
	}
	return d
}

// TestEachMomentOfALife goes through one life, the power going at each step of its disk in turn.
func TestEachMomentOfALife(t *testing.T) {
	for fuse := 0; ; fuse++ {
		for _, pick := range []uint16{0, 5, 11, math.MaxUint16} {
			r := rand.New(rand.NewSource(int64(fuse)))
			s := &story{t: t, r: r, d: made(t)}
			s.l = opened(t, s.d, 1)
			ok(t, s.d.Fuse(fuse))
			s.r = rand.New(rand.NewSource(77))
			went := false
			for range 90 {
				if went = s.call(); went {
					break
				}
			}
			if !went {
				if fuse < 90 {
					t.Error("few steps", fuse)
				}
				return
			}
			ok(t, s.d.Crash([]uint16{pick, pick, pick}, []byte{0, 1}))
			s.back()
			s.again()
		}
	}
}

// TestNumbersAreNotGivenAgain: though all records go, and the power with them, the numbers go on.
func TestNumbersAreNotGivenAgain(t *testing.T) {
	l, d := grown(t, 0)
	last := uint64(0)
	for i := range 60 {
		for range i % 11 {
			n, e := l.Append([]byte("x"))
			if n != last+1 || e != api.OK {
				t.Fatal(n, e, last)
			}
			last = n
		}
		ok(t, l.Sync())
		n, e := l.Rewrite(all(last))
		if n != max(0, i%11-1) && i%3 != 0 || e != api.OK {
			t.Fatal(i, n, e)
		}
		if i%3 != 2 {
			ok(t, l.Drop(last+1))
			has(t, l, last+1, last, strconv.FormatUint(last+1, 10), "")
		}
		ok(t, d.Crash(nil, nil))
		l = opened(t, d, 0)
		if l.Next() != last+1 || l.Durable() != last {
			t.Fatal(l.Next(), last)
		}
	}
}

// all answers the numbers up to n.
func all(n uint64) []uint64 {
	var l []uint64
	for i := range n {
		l = append(l, i+1)
	}
	return l
}
