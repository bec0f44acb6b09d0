package disk

import (
	"bytes"
	"math"
	"math/rand"
	"runtime"
	"slices"
	"strconv"
	"strings"
	"testing"

	"pneumatic/api"
)

// made answers a new disk of that quota.
func made(t *testing.T, quota int) *Disk {
	t.Helper()
	d, err := New(quota)
	if err != api.OK || d == nil {
		t.Fatalf("New(%d): %v, %d", quota, d, err)
	}
	return d
}

// ok fails unless all of these are api.OK.
func ok(t *testing.T, l ...api.Errno) {
	t.Helper()
	for i, err := range l {
		if err != api.OK {
			t.Fatalf("call %d: %d", i, err)
		}
	}
}

// tells fails unless err is that one.
func tells(t *testing.T, call string, err, want api.Errno) {
	t.Helper()
	if err != want {
		t.Errorf("%s: %d, not %d", call, err, want)
	}
}

// has fails unless the disk has a file of that name, of these bytes, the last ones of them loose.
func has(t *testing.T, d *Disk, name, want string, loose int) {
	t.Helper()
	b, err := d.Read(name)
	n, err2 := d.Size(name)
	if err != api.OK || err2 != api.OK || string(b) != want || n != len(want) || d.Loose(name) != loose {
		t.Errorf("%q: Read %q, %d; Size %d, %d; Loose %d, not %q, %d", name, b, err, n, err2, d.Loose(name), want, loose)
	}
}

// names fails unless the disk has just files of these names, and so many bytes.
func names(t *testing.T, d *Disk, used int, want ...string) {
	t.Helper()
	if l := d.Names(); !slices.Equal(l, want) || d.Used() != used {
		t.Errorf("Names %q, Used %d, not %q, %d", l, d.Used(), want, used)
	}
}

// with answers a disk of a great quota, with a file whose bytes were synced, and others that are loose.
func with(t *testing.T, name, synced, loose string) *Disk {
	t.Helper()
	d := made(t, api.MaxBytes)
	put(t, d, name, synced, loose)
	return d
}

// put makes such a file.
func put(t *testing.T, d *Disk, name, synced, loose string) {
	t.Helper()
	ok(t, d.Create(name), d.Append(name, []byte(synced)), d.Sync(name), d.Append(name, []byte(loose)))
}

func TestExampleOfACrash(t *testing.T) {
	d := made(t, 9)
	ok(t, d.Create("a"), d.Append("a", []byte("12345")))
	tells(t, "Append", d.Append("a", []byte("67890")), api.ErrFull)
	ok(t, d.Sync("a"), d.Append("a", []byte("xy")), d.Crash([]uint16{7}, []byte{0xff}))
	has(t, d, "a", "12345\x87", 0)
}

func TestExampleOfAFuse(t *testing.T) {
	d := with(t, "a", "", "")
	ok(t, d.Fuse(1), d.Create("b"))
	tells(t, "Create", d.Create("c"), api.ErrOff)
	if l := d.Names(); len(l) != 0 || !d.Off() {
		t.Error(l, d.Off())
	}
	ok(t, d.Crash(nil, nil))
	names(t, d, 0, "a", "b")
}

func TestExampleOfANameAndASize(t *testing.T) {
	d := with(t, "a", "was", " a")
	ok(t, d.Rename("a", "b"))
	has(t, d, "b", "was a", 2)
	tells(t, "Truncate", d.Truncate("b", 99), api.ErrArg)
	tells(t, "Create", d.Create("B"), api.ErrArg)
	names(t, d, 5, "b")
}

// P10.1

func TestNew(t *testing.T) {
	for _, q := range []int{0, 1, 9, 1<<22 - 1, 1 << 22} {
		d := made(t, q)
		names(t, d, 0)
		if d.Off() {
			t.Error(q, "off")
		}
		ok(t, d.Create("a"), d.Append("a", make([]byte, q)))
		tells(t, "Append", d.Append("a", []byte{0}), api.ErrFull)
	}
	for _, q := range []int{-1, -2, 1<<22 + 1, math.MaxInt, math.MinInt} {
		if d, err := New(q); d != nil || err != api.ErrArg {
			t.Errorf("New(%d): %v, %d", q, d, err)
		}
	}
}

// TestNewHasNoFuse does more than any short fuse would let.
func TestNewHasNoFuse(t *testing.T) {
	d := with(t, "a", "", "")
	for range 5000 {
		ok(t, d.Sync("a"))
	}
}

func TestMayOfEachByte(t *testing.T) {
	const may = "abcdefghijklmnopqrstuvwxyz0123456789-."
	for c := range 256 {
		s := string([]byte{byte(c)})
		want := strings.Contains(may, s)
		for _, name := range []string{s, "a" + s, s + "a", "a" + s + "9", strings.Repeat("a", 31) + s, s + strings.Repeat("-", 31)} {
			if May(name) != want {
				t.Errorf("May(%q): %v", name, !want)
			}
		}
	}
}

func TestMayOfEachLength(t *testing.T) {
	for _, c := range []string{"a", "z", "0", "9", "-", "."} {
		for n := range 100 {
			if is := May(strings.Repeat(c, n)); is != (n >= 1 && n <= 32) {
				t.Errorf("May of %d times %q: %v", n, c, is)
			}
		}
	}
	for _, name := range []string{"", "A", "aB", "a b", "a/b", "a_b", "ä", "a\x00", "\xff", "a\n", strings.Repeat("é", 16), strings.Repeat("a", 1<<20)} {
		if May(name) {
			t.Errorf("May(%.40q)", name)
		}
	}
	for _, name := range []string{".", "..", "-", "book.new", "t0", "0-1.2", strings.Repeat("x.", 16)} {
		if !May(name) {
			t.Errorf("not May(%q)", name)
		}
	}
}

// P10.2

// odd answers texts that are no names.
func odd() []string {
	return []string{"", "B", "a b", "ä", "a\x00", "_", strings.Repeat("a", 33), strings.Repeat("a", 64)}
}

func TestCreate(t *testing.T) {
	d := made(t, 0)
	long := strings.Repeat("l", 32)
	ok(t, d.Create("b"), d.Create("a"), d.Create(long), d.Create("-"), d.Create("10"), d.Create("9"), d.Create("a.b"))
	names(t, d, 0, "-", "10", "9", "a", "a.b", "b", long)
	has(t, d, "a", "", 0)
	has(t, d, long, "", 0)
	tells(t, "Create", d.Create("a"), api.ErrThere)
	for _, name := range odd() {
		tells(t, "Create "+name, d.Create(name), api.ErrArg)
	}
	names(t, d, 0, "-", "10", "9", "a", "a.b", "b", long)
	ok(t, d.Remove("a"), d.Create("a"))
}

func TestCreateLeavesWhatIsThere(t *testing.T) {
	d := with(t, "a", "12", "3")
	tells(t, "Create", d.Create("a"), api.ErrThere)
	has(t, d, "a", "123", 1)
}

// full answers a disk of as many files as there may be.
func full(t *testing.T, quota int) (*Disk, []string) {
	t.Helper()
	d := made(t, quota)
	var l []string
	for i := range 512 {
		l = append(l, "f"+strconv.Itoa(1000+i))
		ok(t, d.Create(l[i]))
	}
	return d, l
}

func TestMostFiles(t *testing.T) {
	d, l := full(t, 10)
	tells(t, "Create one more", d.Create("more"), api.ErrFull)
	tells(t, "Create again", d.Create(l[511]), api.ErrThere)
	tells(t, "Create no name", d.Create("MORE"), api.ErrArg)
	names(t, d, 0, l...)
	ok(t, d.Append(l[3], []byte("x")), d.Rename(l[0], "more"))
	tells(t, "Create", d.Create(l[0]), api.ErrFull)
	ok(t, d.Rename("more", l[3]), d.Create(l[0]))
	tells(t, "Create", d.Create("more"), api.ErrFull)
	has(t, d, l[3], "", 0)
	ok(t, d.Remove(l[0]), d.Create("more"))
	tells(t, "Create", d.Create(l[0]), api.ErrFull)
	ok(t, d.Crash(nil, nil))
	tells(t, "Create behind a crash", d.Create(l[0]), api.ErrFull)
}

func TestAppend(t *testing.T) {
	d := made(t, 20)
	ok(t, d.Create("a"), d.Create("b"), d.Append("a", []byte("12")), d.Append("b", nil), d.Append("a", []byte{}))
	has(t, d, "a", "12", 2)
	has(t, d, "b", "", 0)
	ok(t, d.Sync("a"), d.Append("a", []byte("345")), d.Append("b", []byte("\x00\xff")), d.Append("a", []byte("6")))
	has(t, d, "a", "123456", 4)
	has(t, d, "b", "\x00\xff", 2)
	names(t, d, 8, "a", "b")
	tells(t, "Append to none", d.Append("c", []byte("x")), api.ErrNone)
	tells(t, "Append nothing to none", d.Append("c", nil), api.ErrNone)
	for _, name := range odd() {
		tells(t, "Append to "+name, d.Append(name, []byte("x")), api.ErrArg)
	}
	names(t, d, 8, "a", "b")
}

func TestAppendMeetsTheQuota(t *testing.T) {
	d := made(t, 10)
	ok(t, d.Create("a"), d.Create("b"), d.Append("a", make([]byte, 4)), d.Sync("a"), d.Append("b", make([]byte, 5)))
	tells(t, "Append two", d.Append("a", make([]byte, 2)), api.ErrFull)
	tells(t, "Append many", d.Append("b", make([]byte, 1<<23)), api.ErrFull)
	ok(t, d.Append("a", make([]byte, 1)))
	tells(t, "Append one", d.Append("b", make([]byte, 1)), api.ErrFull)
	ok(t, d.Append("b", nil), d.Create("c"), d.Append("c", nil))
	names(t, d, 10, "a", "b", "c")
	tells(t, "Append to none", d.Append("d", make([]byte, 99)), api.ErrNone)
	tells(t, "Append to no name", d.Append("D", make([]byte, 99)), api.ErrArg)
	ok(t, d.Truncate("a", 2), d.Append("c", make([]byte, 3)), d.Remove("b"), d.Append("c", make([]byte, 5)))
	tells(t, "Append one", d.Append("c", make([]byte, 1)), api.ErrFull)
	ok(t, d.Rename("a", "c"), d.Append("c", make([]byte, 8)))
	tells(t, "Append one", d.Append("c", make([]byte, 1)), api.ErrFull)
	ok(t, d.Crash(nil, nil), d.Append("c", make([]byte, 8)))
}

func TestQuotaOfNoneAndOfMost(t *testing.T) {
	d := made(t, 0)
	ok(t, d.Create("a"), d.Append("a", nil), d.Append("a", []byte{}))
	tells(t, "Append", d.Append("a", []byte{1}), api.ErrFull)
	d = made(t, 1<<22)
	ok(t, d.Create("a"), d.Create("b"), d.Append("a", make([]byte, 1<<21)), d.Append("b", make([]byte, 1<<21)))
	tells(t, "Append", d.Append("b", []byte{1}), api.ErrFull)
	names(t, d, 1<<22, "a", "b")
	ok(t, d.Crash([]uint16{65535, 65535}, []byte{1, 2}))
	names(t, d, 131070, "a", "b")
}

func TestSync(t *testing.T) {
	d := with(t, "a", "12", "3")
	put(t, d, "b", "4", "56")
	ok(t, d.Sync("a"))
	has(t, d, "a", "123", 0)
	has(t, d, "b", "456", 2)
	ok(t, d.Sync("a"), d.Crash(nil, nil))
	has(t, d, "a", "123", 0)
	has(t, d, "b", "4", 0)
	tells(t, "Sync of none", d.Sync("c"), api.ErrNone)
	for _, name := range odd() {
		tells(t, "Sync of "+name, d.Sync(name), api.ErrArg)
	}
}

func TestRename(t *testing.T) {
	d := with(t, "a", "12", "3")
	ok(t, d.Rename("a", "b"))
	names(t, d, 3, "b")
	has(t, d, "b", "123", 1)
	ok(t, d.Append("b", []byte("4")), d.Crash([]uint16{1}, nil))
	has(t, d, "b", "123", 0)
	tells(t, "Read", readErr(d, "a"), api.ErrNone)
	ok(t, d.Create("a"), d.Append("a", []byte("z")))
	has(t, d, "b", "123", 0)
}

func readErr(d *Disk, name string) api.Errno {
	_, err := d.Read(name)
	return err
}

func TestRenameOntoAnother(t *testing.T) {
	d := with(t, "a", "12", "3")
	put(t, d, "b", "", "45678")
	put(t, d, "c", "9", "")
	ok(t, d.Rename("a", "b"))
	names(t, d, 4, "b", "c")
	has(t, d, "b", "123", 1)
	has(t, d, "c", "9", 0)
	ok(t, d.Crash(nil, nil))
	has(t, d, "b", "12", 0)
	names(t, d, 3, "b", "c")
}

func TestRenameToItself(t *testing.T) {
	d := with(t, "a", "12", "3")
	ok(t, d.Rename("a", "a"))
	has(t, d, "a", "123", 1)
	names(t, d, 3, "a")
	ok(t, d.Rename("a", "a"), d.Crash([]uint16{1}, []byte{1}))
	has(t, d, "a", "122", 0)
}

func TestRenameErrors(t *testing.T) {
	d := with(t, "a", "12", "3")
	put(t, d, "b", "4", "5")
	tells(t, "Rename of none", d.Rename("c", "a"), api.ErrNone)
	tells(t, "Rename of none to itself", d.Rename("c", "c"), api.ErrNone)
	for _, name := range odd() {
		tells(t, "Rename of "+name, d.Rename(name, "a"), api.ErrArg)
		tells(t, "Rename to "+name, d.Rename("a", name), api.ErrArg)
		tells(t, "Rename of none to "+name, d.Rename("c", name), api.ErrArg)
		tells(t, "Rename of both "+name, d.Rename(name, name), api.ErrArg)
	}
	has(t, d, "a", "123", 1)
	has(t, d, "b", "45", 1)
	names(t, d, 5, "a", "b")
}

func TestTruncate(t *testing.T) {
	for size := range 7 {
		d := with(t, "a", "1234", "56")
		put(t, d, "b", "7", "8")
		ok(t, d.Truncate("a", size))
		synced := min(size, 4)
		has(t, d, "a", "123456"[:size], size-synced)
		names(t, d, size+2, "a", "b")
		ok(t, d.Append("a", []byte("xyz")))
		has(t, d, "a", "123456"[:size]+"xyz", size-synced+3)
		ok(t, d.Crash(nil, nil))
		has(t, d, "a", "123456"[:synced], 0)
		has(t, d, "b", "7", 0)
	}
}

func TestTruncateErrors(t *testing.T) {
	d := with(t, "a", "12", "3")
	ok(t, d.Create("b"), d.Truncate("b", 0))
	for _, size := range []int{-1, -2, 4, 5, math.MaxInt, math.MinInt} {
		tells(t, "Truncate a "+strconv.Itoa(size), d.Truncate("a", size), api.ErrArg)
	}
	tells(t, "Truncate b", d.Truncate("b", 1), api.ErrArg)
	for _, size := range []int{0, 1, math.MaxInt} {
		tells(t, "Truncate none "+strconv.Itoa(size), d.Truncate("c", size), api.ErrNone)
	}
	for _, size := range []int{-1, math.MinInt} {
		tells(t, "Truncate none "+strconv.Itoa(size), d.Truncate("c", size), api.ErrArg)
	}
	for _, name := range odd() {
		for _, size := range []int{-1, 0, 1} {
			tells(t, "Truncate "+name, d.Truncate(name, size), api.ErrArg)
		}
	}
	has(t, d, "a", "123", 1)
}

func TestRemove(t *testing.T) {
	d := with(t, "a", "12", "3")
	put(t, d, "b", "4", "5")
	ok(t, d.Remove("a"))
	names(t, d, 2, "b")
	tells(t, "Remove again", d.Remove("a"), api.ErrNone)
	tells(t, "Append", d.Append("a", nil), api.ErrNone)
	for _, name := range odd() {
		tells(t, "Remove "+name, d.Remove(name), api.ErrArg)
	}
	ok(t, d.Crash([]uint16{9}, nil))
	names(t, d, 2, "b")
	ok(t, d.Create("a"))
	has(t, d, "a", "", 0)
	ok(t, d.Remove("a"), d.Remove("b"))
	names(t, d, 0)
}

// P10.3

func TestReadAndSize(t *testing.T) {
	d := with(t, "a", "1\x00", "\xff")
	ok(t, d.Create("b"))
	has(t, d, "a", "1\x00\xff", 1)
	has(t, d, "b", "", 0)
	for _, name := range append(odd(), "c", strings.Repeat("c", 32)) {
		want := api.ErrArg
		if May(name) {
			want = api.ErrNone
		}
		b, err := d.Read(name)
		n, err2 := d.Size(name)
		if len(b) != 0 || n != 0 || err != want || err2 != want || d.Loose(name) != 0 {
			t.Errorf("%q: %x, %d; %d, %d; %d", name, b, err, n, err2, d.Loose(name))
		}
	}
}

// TestNamesRise holds that names rise byte by byte, whatever the order in which files come.
func TestNamesRise(t *testing.T) {
	l := []string{"-", "-a", ".", "..", ".a", "0", "00", "01", "1", "10", "2", "a", "a-", "a.", "a0", "aa", "ab", "b", "z", "zz"}
	for seed := range int64(20) {
		d := made(t, 0)
		for _, i := range rand.New(rand.NewSource(seed)).Perm(len(l)) {
			ok(t, d.Create(l[i]))
		}
		names(t, d, 0, l...)
	}
}

// P10.4

func TestQuota(t *testing.T) {
	d := made(t, 3)
	ok(t, d.Create("a"), d.Append("a", []byte("123")))
	tells(t, "Append", d.Append("a", []byte("4")), api.ErrFull)
	ok(t, d.Quota(5), d.Append("a", []byte("45")))
	tells(t, "Append", d.Append("a", []byte("6")), api.ErrFull)
	for _, n := range []int{-1, 1<<22 + 1, math.MaxInt, math.MinInt} {
		tells(t, "Quota "+strconv.Itoa(n), d.Quota(n), api.ErrArg)
	}
	tells(t, "Append", d.Append("a", []byte("6")), api.ErrFull)
	ok(t, d.Quota(1<<22), d.Append("a", make([]byte, 1<<22-5)))
	tells(t, "Append", d.Append("a", []byte("6")), api.ErrFull)
}

// TestQuotaBelowWhatThereIs holds that all else can be done then, and that nothing is appended till there is room again, not even no bytes.
func TestQuotaBelowWhatThereIs(t *testing.T) {
	d := with(t, "a", "1234", "56")
	ok(t, d.Quota(4))
	has(t, d, "a", "123456", 2)
	tells(t, "Append", d.Append("a", []byte("7")), api.ErrFull)
	tells(t, "Append nothing", d.Append("a", nil), api.ErrFull)
	ok(t, d.Create("b"), d.Rename("a", "c"), d.Sync("c"), d.Truncate("c", 5))
	tells(t, "Append nothing", d.Append("b", nil), api.ErrFull)
	ok(t, d.Truncate("c", 4), d.Append("b", nil))
	tells(t, "Append", d.Append("b", []byte("7")), api.ErrFull)
	ok(t, d.Truncate("c", 3), d.Append("b", []byte("7")), d.Quota(0), d.Remove("c"), d.Crash([]uint16{1}, nil))
	has(t, d, "b", "7", 0)
	ok(t, d.Truncate("b", 0), d.Append("b", nil))
}

func TestQuotaLastsAndNeedsNoPower(t *testing.T) {
	d := with(t, "a", "1234", "")
	ok(t, d.Fuse(0))
	tells(t, "Sync", d.Sync("a"), api.ErrOff)
	ok(t, d.Quota(5))
	tells(t, "Quota", d.Quota(-1), api.ErrArg)
	tells(t, "Quota", d.Quota(1<<22+1), api.ErrArg)
	if !d.Off() {
		t.Error("on")
	}
	ok(t, d.Crash(nil, nil), d.Append("a", []byte("5")))
	tells(t, "Append", d.Append("a", []byte("6")), api.ErrFull)
}

// sixth answers the six calls that change something, each of which may be done now.
func sixth() []step {
	return []step{{call: "create", name: "new"}, {call: "append", name: "a", b: []byte("x")}, {call: "sync", name: "a"}, {call: "rename", name: "a", other: "z"}, {call: "truncate", name: "a", size: 1}, {call: "remove", name: "a"}}
}

func TestFuseOfNone(t *testing.T) {
	for _, s := range sixth() {
		d := with(t, "a", "12", "3")
		ok(t, d.Fuse(0))
		if d.Off() {
			t.Error(s, "off ahead of it")
		}
		has(t, d, "a", "123", 1)
		tells(t, s.call, run(d, s), api.ErrOff)
		tells(t, s.call+" again", run(d, s), api.ErrOff)
		if !d.Off() {
			t.Error(s, "on")
		}
		ok(t, d.Crash([]uint16{1}, nil))
		has(t, d, "a", "123", 0)
		names(t, d, 3, "a")
		ok(t, run(d, s), d.Create("more"), d.Create("yet-more"))
	}
}

func TestFuseOfOne(t *testing.T) {
	for _, s := range sixth() {
		for _, last := range sixth() {
			d := with(t, "a", "12", "3")
			put(t, d, "b", "", "4")
			last.name = strings.Replace(last.name, "a", "b", 1)
			last.size = 0
			ok(t, d.Fuse(1))
			tells(t, s.call, run(d, s), api.OK)
			if d.Off() {
				t.Error(s, "off")
			}
			want := api.ErrOff
			if s.call == "create" && last.call == "create" {
				want = api.ErrThere
			}
			tells(t, last.call, run(d, last), want)
			if d.Off() != (want == api.ErrOff) {
				t.Error(s, last, d.Off())
			}
		}
	}
}

func TestFuseOfMany(t *testing.T) {
	for n := range 40 {
		d := with(t, "a", "12", "3")
		ok(t, d.Fuse(n))
		for range n {
			ok(t, d.Append("a", []byte("x")))
		}
		tells(t, "Append", d.Append("a", []byte("x")), api.ErrOff)
		ok(t, d.Crash([]uint16{uint16(n + 1)}, nil))
		has(t, d, "a", "123"+strings.Repeat("x", n), 0)
	}
	d := with(t, "a", "12", "3")
	ok(t, d.Fuse(math.MaxInt), d.Append("a", nil), d.Sync("a"), d.Fuse(1), d.Fuse(2), d.Sync("a"), d.Sync("a"))
	tells(t, "Sync", d.Sync("a"), api.ErrOff)
}

func TestFuseTakenAway(t *testing.T) {
	d := with(t, "a", "12", "3")
	ok(t, d.Fuse(0), d.Fuse(-1), d.Sync("a"), d.Fuse(1), d.Sync("a"), d.Fuse(-1))
	for range 100 {
		ok(t, d.Sync("a"))
	}
	ok(t, d.Fuse(-1), d.Sync("a"), d.Fuse(0), d.Crash(nil, nil), d.Sync("a"), d.Fuse(1), d.Crash(nil, nil), d.Sync("a"), d.Sync("a"))
}

func TestFuseErrors(t *testing.T) {
	d := with(t, "a", "12", "3")
	ok(t, d.Fuse(1))
	for _, n := range []int{-2, -3, math.MinInt} {
		tells(t, "Fuse "+strconv.Itoa(n), d.Fuse(n), api.ErrArg)
	}
	ok(t, d.Sync("a"))
	tells(t, "Sync", d.Sync("a"), api.ErrOff)
	for _, n := range []int{-2, -1, 0, 1, math.MinInt, math.MaxInt} {
		tells(t, "Fuse "+strconv.Itoa(n), d.Fuse(n), api.ErrOff)
	}
	ok(t, d.Crash(nil, nil))
	for range 9 {
		ok(t, d.Sync("a"))
	}
}

// TestFuseStays holds that only calls that change something, and tell OK, make the fuse less: with a fuse of 1 and of 0.
func TestFuseStays(t *testing.T) {
	d := with(t, "a", "12", "3")
	ok(t, d.Quota(3))
	for n := 1; n >= 0; n-- {
		ok(t, d.Fuse(n))
		for range 3 {
			for _, s := range wrong() {
				tells(t, s.call, run(d, s.step), s.want)
			}
			d.Names()
			d.Used()
			d.Loose("a")
			d.Off()
			d.Read("a")
			d.Read("b")
			d.Size("a")
			d.Size("B")
			ok(t, d.Quota(3))
			tells(t, "Quota", d.Quota(-1), api.ErrArg)
			tells(t, "Fuse", d.Fuse(-2), api.ErrArg)
		}
		has(t, d, "a", "123", 1)
		for range n {
			ok(t, d.Truncate("a", 3))
		}
		tells(t, "Truncate", d.Truncate("a", 3), api.ErrOff)
		ok(t, d.Crash([]uint16{1}, nil), d.Truncate("a", 2), d.Sync("a"), d.Append("a", []byte("3")))
	}
}

// refusal is a step, and the error that it tells.
type refusal struct {
	step
	want api.Errno
}

// wrong answers steps that are refused of a disk that has just a file a, of three bytes, as its quota asks.
func wrong() []refusal {
	return []refusal{
		{step{call: "create", name: "A"}, api.ErrArg}, {step{call: "create", name: "a"}, api.ErrThere},
		{step{call: "append", name: "A"}, api.ErrArg}, {step{call: "append", name: "b"}, api.ErrNone}, {step{call: "append", name: "a", b: []byte("x")}, api.ErrFull},
		{step{call: "sync", name: ""}, api.ErrArg}, {step{call: "sync", name: "b"}, api.ErrNone},
		{step{call: "rename", name: "A", other: "a"}, api.ErrArg}, {step{call: "rename", name: "a", other: "A"}, api.ErrArg}, {step{call: "rename", name: "b", other: "a"}, api.ErrNone},
		{step{call: "truncate", name: "A"}, api.ErrArg}, {step{call: "truncate", name: "a", size: -1}, api.ErrArg}, {step{call: "truncate", name: "b"}, api.ErrNone}, {step{call: "truncate", name: "a", size: 4}, api.ErrArg},
		{step{call: "remove", name: "A"}, api.ErrArg}, {step{call: "remove", name: "b"}, api.ErrNone},
	}
}

// P10.5

func TestCrashOfOneFile(t *testing.T) {
	for _, x := range []struct {
		synced, loose string
		picks         []uint16
		torn          []byte
		want          string
	}{
		{"", "", nil, nil, ""}, {"12", "", []uint16{1}, []byte{0xff}, "12"},
		{"12", "abc", nil, nil, "12"}, {"12", "abc", nil, []byte{0xff}, "12"}, {"12", "abc", []uint16{}, []byte{}, "12"},
		{"12", "abc", []uint16{0}, []byte{0xff}, "12"}, {"12", "abc", []uint16{1}, nil, "12a"}, {"12", "abc", []uint16{2}, nil, "12ab"}, {"12", "abc", []uint16{3}, nil, "12abc"},
		{"12", "abc", []uint16{4}, []byte{0xff}, "12"}, {"12", "abc", []uint16{5}, nil, "12a"}, {"12", "abc", []uint16{7}, nil, "12abc"}, {"12", "abc", []uint16{65535}, nil, "12abc"}, {"12", "abc", []uint16{65534}, nil, "12ab"}, {"12", "abc", []uint16{32768}, nil, "12"},
		{"12", "abc", []uint16{2}, []byte{0x01}, "12ac"}, {"12", "abc", []uint16{2}, []byte{0x00}, "12ab"}, {"12", "abc", []uint16{3}, []byte{0xff}, "12ab\x9c"}, {"12", "abc", []uint16{3}, []byte{'c'}, "12ab\x00"},
		{"", "abc", []uint16{1}, []byte{0x80, 0x01}, "\xe1"}, {"", "a", []uint16{1, 1}, []byte{0x02}, "c"}, {"", "a", []uint16{2}, []byte{0x02}, ""},
	} {
		d := with(t, "a", x.synced, x.loose)
		ok(t, d.Crash(x.picks, x.torn))
		has(t, d, "a", x.want, 0)
		names(t, d, len(x.want), "a")
	}
}

// several answers a disk of six files, made in no order; b, d, e have loose bytes: three, one and two.
func several(t *testing.T) *Disk {
	t.Helper()
	d := with(t, "e", "E", "yz")
	put(t, d, "c", "C", "")
	put(t, d, "b", "BB", "pqr")
	put(t, d, "f", "", "")
	put(t, d, "d", "", "u")
	put(t, d, "a", "A", "")
	return d
}

func TestCrashOfSeveralFiles(t *testing.T) {
	for _, x := range []struct {
		picks   []uint16
		torn    []byte
		b, d, e string
	}{
		{nil, nil, "BB", "", "E"}, {nil, []byte{1, 1, 1}, "BB", "", "E"},
		{[]uint16{3, 1, 2}, nil, "BBpqr", "u", "Eyz"}, {[]uint16{7, 3, 5}, nil, "BBpqr", "u", "Eyz"}, {[]uint16{4, 2, 3}, []byte{1, 1, 1}, "BB", "", "E"},
		{[]uint16{1}, nil, "BBp", "", "E"}, {[]uint16{2, 1}, nil, "BBpq", "u", "E"}, {[]uint16{0, 1}, nil, "BB", "u", "E"}, {[]uint16{0, 0, 1}, nil, "BB", "", "Ey"},
		{[]uint16{3, 1, 2, 9, 9, 9}, []byte{1, 1, 1, 9, 9, 9}, "BBpqs", "t", "Ey{"},
		{[]uint16{3, 1, 2}, []byte{1}, "BBpqs", "u", "Eyz"}, {[]uint16{3, 1, 2}, []byte{0, 1}, "BBpqr", "t", "Eyz"}, {[]uint16{0, 0, 1}, []byte{1, 1, 1}, "BB", "", "Ex"}, {[]uint16{0, 0, 1}, []byte{1, 1}, "BB", "", "Ey"},
	} {
		d := several(t)
		ok(t, d.Crash(x.picks, x.torn))
		has(t, d, "a", "A", 0)
		has(t, d, "b", x.b, 0)
		has(t, d, "c", "C", 0)
		has(t, d, "d", x.d, 0)
		has(t, d, "e", x.e, 0)
		has(t, d, "f", "", 0)
		names(t, d, 2+len(x.b)+len(x.d)+len(x.e), "a", "b", "c", "d", "e", "f")
	}
}

// TestCrashGoesByNames holds that files are counted by the names that they have then, and only those with loose bytes.
func TestCrashGoesByNames(t *testing.T) {
	d := several(t)
	ok(t, d.Rename("b", "g"), d.Sync("d"), d.Append("a", []byte("k")), d.Crash([]uint16{0, 2, 3}, []byte{1, 1, 1}))
	has(t, d, "a", "A", 0)
	has(t, d, "d", "u", 0)
	has(t, d, "e", "Ey{", 0)
	has(t, d, "g", "BBpqs", 0)
}

// TestCrashWithThePowerOff holds that loose bytes are counted then, too, and the power is on behind it.
func TestCrashWithThePowerOff(t *testing.T) {
	d := several(t)
	ok(t, d.Fuse(0))
	tells(t, "Remove", d.Remove("b"), api.ErrOff)
	ok(t, d.Crash([]uint16{2, 1, 1}, []byte{0, 0, 1}))
	if d.Off() {
		t.Error("off")
	}
	has(t, d, "b", "BBpq", 0)
	has(t, d, "d", "u", 0)
	has(t, d, "e", "Ex", 0)
}

func TestCrashOfManyLooseBytes(t *testing.T) {
	for _, x := range []struct{ loose, pick, want int }{{65534, 65535, 0}, {65535, 65535, 65535}, {65536, 65535, 65535}, {1 << 20, 65535, 65535}, {65535, 0, 0}, {40000, 65535, 25534}} {
		d := with(t, "a", "1", strings.Repeat("x", x.loose))
		ok(t, d.Crash([]uint16{uint16(x.pick)}, nil))
		has(t, d, "a", "1"+strings.Repeat("x", x.want), 0)
	}
}

// P10.6

// all answers what stands on a disk.
func all(t *testing.T, d *Disk) map[string]string {
	t.Helper()
	m := map[string]string{}
	for _, name := range d.Names() {
		b, err := d.Read(name)
		ok(t, err)
		m[name] = string(b)
	}
	return m
}

func TestWhatACrashKeeps(t *testing.T) {
	for seed := range int64(300) {
		r := rand.New(rand.NewSource(seed))
		d := made(t, 60)
		for range 60 {
			run(d, anyStep(r))
		}
		was, l := all(t, d), d.Names()
		synced := map[string]int{}
		for _, name := range l {
			synced[name] = len(was[name]) - d.Loose(name)
		}
		ok(t, d.Crash(anyCrash(r)))
		if !slices.Equal(d.Names(), l) {
			t.Fatalf("Names %q, not %q", d.Names(), l)
		}
		for name, b := range all(t, d) {
			kept(t, was[name], synced[name], b)
		}
		again(t, r, d)
	}
}

// kept fails unless b is a beginning of was, with all that was synced, but that its last byte may be another one behind that.
func kept(t *testing.T, was string, synced int, b string) {
	t.Helper()
	if len(b) < synced || len(b) > len(was) || b[:synced] != was[:synced] {
		t.Fatalf("%x, of which %d were synced, became %x", was, synced, b)
	}
	if len(b) > synced && b[:len(b)-1] != was[:len(b)-1] {
		t.Fatalf("%x, of which %d were synced, became %x", was, synced, b)
	}
}

// again holds that what a crash left a second one leaves as it is.
func again(t *testing.T, r *rand.Rand, d *Disk) {
	t.Helper()
	left := &plain{}
	for _, name := range d.Names() {
		f := leaf{name: name}
		b, _ := d.Read(name)
		for _, c := range b {
			f.bytes = append(f.bytes, bit{b: c})
		}
		left.files = append(left.files, f)
	}
	for range 3 {
		ok(t, d.Crash(anyCrash(r)))
		left.check(t, d)
	}
}

// TestWhatLastsAtOnce holds that a crash right behind a call leaves a name, and that it is gone, without any Sync.
func TestWhatLastsAtOnce(t *testing.T) {
	d := with(t, "a", "1234", "")
	ok(t, d.Create("b"), d.Crash(nil, nil))
	names(t, d, 4, "a", "b")
	ok(t, d.Remove("b"), d.Crash(nil, nil))
	names(t, d, 4, "a")
	ok(t, d.Rename("a", "c"), d.Crash(nil, nil))
	names(t, d, 4, "c")
	has(t, d, "c", "1234", 0)
	ok(t, d.Truncate("c", 1), d.Crash([]uint16{3}, nil))
	has(t, d, "c", "1", 0)
}

func TestASecondCrash(t *testing.T) {
	d := with(t, "a", "12", "abc")
	ok(t, d.Crash([]uint16{2}, []byte{1}))
	has(t, d, "a", "12ac", 0)
	ok(t, d.Crash([]uint16{1}, []byte{1}), d.Crash(nil, []byte{0xff}))
	has(t, d, "a", "12ac", 0)
	ok(t, d.Append("a", []byte("xy")), d.Crash([]uint16{1}, nil), d.Crash([]uint16{0}, nil))
	has(t, d, "a", "12acx", 0)
}

// P10.7

func TestWhatIsRefusedChangesNothing(t *testing.T) {
	d := with(t, "a", "12", "3")
	ok(t, d.Quota(3))
	for _, s := range wrong() {
		tells(t, s.call, run(d, s.step), s.want)
		has(t, d, "a", "123", 1)
		names(t, d, 3, "a")
		if d.Off() {
			t.Error(s, "off")
		}
	}
	for _, s := range sixth() {
		ok(t, d.Fuse(0), d.Quota(4))
		tells(t, s.call, run(d, s), api.ErrOff)
		ok(t, d.Crash([]uint16{1}, nil))
		has(t, d, "a", "123", 0)
		names(t, d, 3, "a")
		ok(t, d.Truncate("a", 2), d.Sync("a"), d.Append("a", []byte("3")))
	}
}

// Wrong inputs

// TestNotMade holds what New did not make: ErrNil is ahead of all else.
func TestNotMade(t *testing.T) {
	for _, d := range []*Disk{nil, {}, new(Disk)} {
		for range 2 {
			silent(t, d, api.ErrNil)
			for _, n := range []int{-2, -1, 0, 9, 1<<22 + 1} {
				tells(t, "Quota", d.Quota(n), api.ErrNil)
				tells(t, "Fuse", d.Fuse(n), api.ErrNil)
			}
			tells(t, "Crash", d.Crash([]uint16{1}, []byte{1}), api.ErrNil)
			tells(t, "Crash", d.Crash(nil, nil), api.ErrNil)
			if d.Off() {
				t.Error("off")
			}
		}
	}
}

// silent fails unless all calls of a file's name tell that error, whatever they are given, and the others nothing.
func silent(t *testing.T, d *Disk, want api.Errno) {
	t.Helper()
	for _, name := range append(odd(), "a", "b") {
		for _, other := range []string{"a", "b", "B", ""} {
			tells(t, "Rename", d.Rename(name, other), want)
		}
		for _, size := range []int{-1, 0, 1, math.MaxInt} {
			tells(t, "Truncate", d.Truncate(name, size), want)
		}
		for _, b := range [][]byte{nil, []byte("x"), make([]byte, 99)} {
			tells(t, "Append", d.Append(name, b), want)
		}
		tells(t, "Create", d.Create(name), want)
		tells(t, "Sync", d.Sync(name), want)
		tells(t, "Remove", d.Remove(name), want)
		b, err := d.Read(name)
		n, err2 := d.Size(name)
		if len(b) != 0 || n != 0 || d.Loose(name) != 0 {
			t.Error(name, b, n, d.Loose(name))
		}
		tells(t, "Read", err, want)
		tells(t, "Size", err2, want)
	}
	if l, n := d.Names(), d.Used(); len(l) != 0 || n != 0 {
		t.Error(l, n)
	}
}

// TestPowerOff holds that ErrOff is ahead of all but ErrNil then, and that nothing changes.
func TestPowerOff(t *testing.T) {
	d := with(t, "a", "12", "3")
	ok(t, d.Quota(3), d.Fuse(0))
	tells(t, "Create", d.Create("b"), api.ErrOff)
	silent(t, d, api.ErrOff)
	for _, n := range []int{-2, -1, 0, 9} {
		tells(t, "Fuse", d.Fuse(n), api.ErrOff)
	}
	silent(t, d, api.ErrOff)
	if !d.Off() {
		t.Error("on")
	}
	ok(t, d.Crash([]uint16{1}, nil))
	names(t, d, 3, "a")
	has(t, d, "a", "123", 0)
}

// TestOrderOfErrors holds which of several errors is told: each step has all errors from its own on.
func TestOrderOfErrors(t *testing.T) {
	d, l := full(t, 2)
	ok(t, d.Append(l[0], []byte("12")), d.Fuse(0))
	for _, x := range []refusal{
		{step{call: "create", name: "A"}, api.ErrArg}, {step{call: "create", name: l[0]}, api.ErrThere}, {step{call: "create", name: "a"}, api.ErrFull},
		{step{call: "append", name: "A", b: []byte("3")}, api.ErrArg}, {step{call: "append", name: "a", b: []byte("3")}, api.ErrNone}, {step{call: "append", name: l[0], b: []byte("3")}, api.ErrFull},
		{step{call: "sync", name: "A"}, api.ErrArg}, {step{call: "sync", name: "a"}, api.ErrNone},
		{step{call: "rename", name: "a", other: "A"}, api.ErrArg}, {step{call: "rename", name: "A", other: "a"}, api.ErrArg}, {step{call: "rename", name: "a", other: l[0]}, api.ErrNone},
		{step{call: "truncate", name: "a", size: -1}, api.ErrArg}, {step{call: "truncate", name: "a", size: 9}, api.ErrNone}, {step{call: "truncate", name: l[0], size: 3}, api.ErrArg},
		{step{call: "remove", name: "A"}, api.ErrArg}, {step{call: "remove", name: "a"}, api.ErrNone},
	} {
		tells(t, x.call+" "+x.name, run(d, x.step), x.want)
	}
	names(t, d, 2, l...)
	tells(t, "Sync", d.Sync(l[0]), api.ErrOff)
}

// What is handed in and what is told (R3)

func TestWhatIsHandedInStays(t *testing.T) {
	b := []byte("123 and more")
	d := made(t, 99)
	ok(t, d.Create("a"), d.Append("a", b[:3]))
	copy(b, "xyz")
	has(t, d, "a", "123", 3)
	ok(t, d.Append("a", b[:2]), d.Append("a", b[3:3]))
	if string(b) != "xyz and more" {
		t.Errorf("%q", b)
	}
	b[0], b[3] = '!', '!'
	has(t, d, "a", "123xy", 5)
	picks, torn := []uint16{4, 5, 6}, []byte{7, 8, 9}
	ok(t, d.Crash(picks, torn))
	if !slices.Equal(picks, []uint16{4, 5, 6}) || !bytes.Equal(torn, []byte{7, 8, 9}) {
		t.Error(picks, torn)
	}
}

// TestAppendOfWhatWasRead holds that a file can be put behind itself, and that what was read lives on apart from it.
func TestAppendOfWhatWasRead(t *testing.T) {
	d := with(t, "a", "12", "3")
	b, _ := d.Read("a")
	ok(t, d.Append("a", b), d.Append("a", b))
	has(t, d, "a", "123123123", 7)
	ok(t, d.Truncate("a", 1), d.Append("a", []byte("zzz")), d.Crash([]uint16{3}, []byte{1}))
	if string(b) != "123" {
		t.Errorf("%q", b)
	}
}

// spoil changes all of an answer, and what room it has behind it.
func spoil(b []byte) {
	b = b[:cap(b)]
	for i := range b {
		b[i] ^= 0xa5
	}
}

func TestWhatIsToldIsNewMemory(t *testing.T) {
	d := with(t, "a", "12", "3")
	ok(t, d.Create("b"), d.Truncate("a", 2), d.Append("a", []byte("3")))
	for range 3 {
		b, _ := d.Read("a")
		spoil(b)
		c, _ := d.Read("b")
		spoil(c)
		l := d.Names()[:2]
		l[0], l[1] = "x", "y"
	}
	has(t, d, "a", "123", 1)
	has(t, d, "b", "", 0)
	names(t, d, 3, "a", "b")
	ok(t, d.Append("a", []byte("45")), d.Append("b", []byte("6")))
	has(t, d, "a", "12345", 3)
	has(t, d, "b", "6", 1)
}

// TestWhatIsCutTakesNoMemory holds that bytes that are gone are not kept: of many files that were great there would be more than any disk has.
func TestWhatIsCutTakesNoMemory(t *testing.T) {
	d := made(t, api.MaxBytes)
	great := make([]byte, api.MaxBytes-64)
	for i := range 32 {
		name := strconv.Itoa(i)
		ok(t, d.Create(name), d.Append(name, great))
		if i%2 == 0 {
			ok(t, d.Truncate(name, i%4/2))
		}
		ok(t, d.Crash([]uint16{0}, nil))
	}
	var m runtime.MemStats
	runtime.GC()
	runtime.ReadMemStats(&m)
	if m.HeapAlloc > 8*api.MaxBytes {
		t.Errorf("%d bytes are kept, of %d on the disk", m.HeapAlloc, d.Used())
	}
	runtime.KeepAlive(d)
}
