package seglog

import (
	"fmt"
	"math/rand"
	"slices"
	"strings"
	"testing"

	"pneumatic/api"
	"pneumatic/disk"
	"pneumatic/segment"
)

// plain is a log by the words of the chapter alone, on a disk of its own: what a Log is held against, and its disk against this one.
type plain struct {
	d       *disk.Disk
	place   int
	segs    []seg
	next    uint64
	durable uint64
	over    bool
}

type seg struct {
	first uint64
	recs  []segment.Rec
}

// did goes on if the disk told OK; else it ends what catch does.
func (p *plain) did(e api.Errno) {
	p.over = p.over || e == api.ErrOff
	if e != api.OK {
		panic(e)
	}
}

// catch answers the error at which do ended.
func catch(do func()) (e api.Errno) {
	defer func() {
		if r := recover(); r != nil {
			e = r.(api.Errno)
		}
	}()
	do()
	return api.OK
}

func named(place int, first uint64) string { return fmt.Sprintf("s%d-%013d", place, first) }

func (p *plain) name(s seg) string { return named(p.place, s.first) }

func (p *plain) t() string { return fmt.Sprintf("t%d", p.place) }

func form(r segment.Rec) []byte {
	b, e := segment.Put(r)
	if e != api.OK {
		panic("no form")
	}
	return b
}

func forms(l []segment.Rec) []byte {
	var b []byte
	for _, r := range l {
		b = append(b, form(r)...)
	}
	return b
}

// all answers all records, segment by segment.
func (p *plain) all() []segment.Rec {
	var l []segment.Rec
	for _, s := range p.segs {
		l = append(l, s.recs...)
	}
	return l
}

func (p *plain) open() api.Errno {
	p.segs, p.over = nil, false
	return catch(func() {
		if slices.Contains(p.d.Names(), p.t()) {
			p.did(p.d.Remove(p.t()))
		}
		p.look()
		if len(p.segs) == 0 {
			p.did(p.d.Create(named(p.place, 1)))
			p.segs = []seg{{first: 1}}
		}
		for _, s := range p.segs {
			if p.d.Loose(p.name(s)) > 0 {
				p.did(p.d.Sync(p.name(s)))
			}
		}
		p.next = p.segs[len(p.segs)-1].first
		if l := p.all(); len(l) > 0 && l[len(l)-1].N+1 > p.next {
			p.next = l[len(l)-1].N + 1
		}
		p.durable = p.next - 1
	})
}

// look is the second step of an Open.
func (p *plain) look() {
	whole := true
	for _, name := range p.d.Names() {
		place, first, e := segment.Parse(name)
		if e != api.OK || place != p.place {
			continue
		}
		b, e := p.d.Read(name)
		p.did(e)
		recs, n := segment.Split(b, first)
		rises := !slices.ContainsFunc(p.all(), func(r segment.Rec) bool { return r.N >= first })
		if !rises || !whole {
			p.did(p.d.Remove(name))
			continue
		}
		if n < len(b) {
			p.did(p.d.Truncate(name, n))
			p.did(p.d.Sync(name))
			whole = false
		}
		p.segs = append(p.segs, seg{first, recs})
	}
}

func (p *plain) roll() {
	p.did(p.d.Sync(p.name(p.segs[len(p.segs)-1])))
	if p.next > 1<<40 {
		p.did(api.ErrArg)
	}
	p.did(p.d.Create(named(p.place, p.next)))
	p.segs = append(p.segs, seg{first: p.next})
}

func (p *plain) append(data []byte) (uint64, api.Errno) {
	switch {
	case p.over:
		return 0, api.ErrOff
	case len(data) > 1500:
		return 0, api.ErrLong
	case p.next > 1<<40:
		return 0, api.ErrArg
	}
	r := segment.Rec{N: p.next, Data: slices.Clone(data)}
	e := catch(func() {
		if len(p.segs[len(p.segs)-1].recs) >= 8 {
			p.roll()
		}
		last := &p.segs[len(p.segs)-1]
		p.did(p.d.Append(p.name(*last), form(r)))
		last.recs = append(last.recs, r)
		p.next++
	})
	if e != api.OK {
		return 0, e
	}
	return r.N, api.OK
}

func (p *plain) sync() api.Errno {
	if p.over {
		return api.ErrOff
	}
	return catch(func() {
		p.did(p.d.Sync(p.name(p.segs[len(p.segs)-1])))
		p.durable = p.next - 1
	})
}

func (p *plain) read(from uint64, most int) []segment.Rec {
	var l []segment.Rec
	for _, r := range p.all() {
		if !p.over && r.N >= from && len(l) < most {
			l = append(l, r)
		}
	}
	return l
}

// below tells whether all of the first segment's records are below n.
func (p *plain) below(n uint64) bool {
	return !slices.ContainsFunc(p.segs[0].recs, func(r segment.Rec) bool { return r.N >= n })
}

func (p *plain) remove() {
	p.did(p.d.Remove(p.name(p.segs[0])))
	p.segs = p.segs[1:]
}

func (p *plain) drop(before uint64) api.Errno {
	if p.over {
		return api.ErrOff
	}
	return catch(func() {
		for p.below(before) && len(p.segs) > 1 {
			p.remove()
		}
		if len(p.segs) == 1 && len(p.segs[0].recs) > 0 && p.below(before) && before <= p.next {
			p.roll()
			p.remove()
		}
	})
}

func (p *plain) rewrite(without []uint64) (int, api.Errno) {
	if e := p.sync(); e != api.OK {
		return 0, e
	}
	went := 0
	e := catch(func() {
		for i := range p.segs {
			went += p.thin(i, without)
		}
	})
	if e != api.OK {
		if slices.Contains(p.d.Names(), p.t()) {
			catch(func() { p.did(p.d.Remove(p.t())) })
		}
		return 0, e
	}
	return went, api.OK
}

func (p *plain) thin(i int, without []uint64) int {
	var stay []segment.Rec
	l := p.all()
	for _, r := range p.segs[i].recs {
		if r.N == l[len(l)-1].N || !slices.Contains(without, r.N) {
			stay = append(stay, r)
		}
	}
	went := len(p.segs[i].recs) - len(stay)
	if went == 0 {
		return 0
	}
	p.did(p.d.Create(p.t()))
	if len(stay) > 0 {
		p.did(p.d.Append(p.t(), forms(stay)))
	}
	p.did(p.d.Sync(p.t()))
	p.did(p.d.Rename(p.t(), p.name(p.segs[i])))
	p.segs[i].recs = stay
	return went
}

// check holds all that l tells against p, and both disks against each other.
func (p *plain) check(t *testing.T, r *rand.Rand, l *Log, d *disk.Disk) {
	t.Helper()
	var firsts []uint64
	for _, s := range p.segs {
		firsts = append(firsts, s.first)
	}
	if got := l.Segments(); !slices.Equal(got, firsts) || l.First() != firsts[0] {
		t.Fatalf("Segments %v, First %d, not %v", got, l.First(), firsts)
	}
	if l.Next() != p.next || l.Durable() != p.durable || l.Over() != p.over || l.Bytes() != len(forms(p.all())) {
		t.Fatalf("Next %d, Durable %d, Over %v, Bytes %d, not %d, %d, %v, %d", l.Next(), l.Durable(), l.Over(), l.Bytes(), p.next, p.durable, p.over, len(forms(p.all())))
	}
	same(t, d, p.d)
	if d.Off() && !p.over {
		return // of this the chapter leaves open whether Read asks the disk
	}
	for _, most := range []int{1 << 30, r.Intn(12) - 1} {
		from := uint64(r.Intn(int(p.next)+3)) >> r.Intn(3)
		if got := l.Read(from, most); !segment.Same(got, p.read(from, most)) {
			t.Fatalf("Read(%d, %d): %v, not %v", from, most, got, p.read(from, most))
		}
	}
}

// same fails unless both disks have the same.
func same(t *testing.T, d, want *disk.Disk) {
	t.Helper()
	if d.Off() != want.Off() || !slices.Equal(d.Names(), want.Names()) {
		t.Fatalf("off %v, %q, not %v, %q", d.Off(), d.Names(), want.Off(), want.Names())
	}
	for _, name := range want.Names() {
		a, _ := d.Read(name)
		b, _ := want.Read(name)
		if !slices.Equal(a, b) || d.Loose(name) != want.Loose(name) {
			t.Fatalf("%s: %x, %d loose, not %x, %d", name, a, d.Loose(name), b, want.Loose(name))
		}
	}
}

// pair is a Log and a plain one, each on a disk of its own.
type pair struct {
	t *testing.T
	r *rand.Rand
	d *disk.Disk
	l *Log
	p *plain
}

// tells fails unless both told the same.
func (x *pair) tells(call string, n uint64, e api.Errno, wantN uint64, want api.Errno) {
	x.t.Helper()
	if n != wantN || e != want {
		x.t.Fatalf("%s: %d, %d, not %d, %d", call, n, e, wantN, want)
	}
}

// open opens both; with the power off, or a fuse that burns down, more than once.
func (x *pair) open() {
	x.t.Helper()
	for {
		want := x.p.open()
		l, e := Open(x.d, x.p.place)
		x.tells("Open", 0, e, 0, want)
		same(x.t, x.d, x.p.d)
		if e == api.OK {
			x.l = l
			return
		}
		if l != nil {
			x.t.Fatal("a log beside an error")
		}
		if e == api.ErrFull {
			x.quota(1 << 20)
		}
		x.crash()
	}
}

// crash makes the power go on both, to leave the same.
func (x *pair) crash() {
	picks, torn := make([]uint16, x.r.Intn(4)), make([]byte, x.r.Intn(4))
	for i := range picks {
		picks[i] = uint16(x.r.Intn(1 << (1 + x.r.Intn(16))))
	}
	x.r.Read(torn)
	for _, d := range []*disk.Disk{x.d, x.p.d} {
		d.Crash(picks, torn)
	}
}

func (x *pair) quota(n int) {
	for _, d := range []*disk.Disk{x.d, x.p.d} {
		d.Quota(n)
	}
}

func (x *pair) fuse(n int) {
	for _, d := range []*disk.Disk{x.d, x.p.d} {
		d.Fuse(n)
	}
}

// spoil changes one of both disks' files, as no log does.
func (x *pair) spoil() {
	names := append(x.d.Names(), x.p.t(), named(x.p.place, uint64(1+x.r.Intn(40))), named((x.p.place+1)%4, 9))
	name := names[x.r.Intn(len(names))]
	size, _ := x.d.Size(name)
	cut := x.r.Intn(size + 1)
	kind, b := x.r.Intn(4), form(segment.Rec{N: uint64(1 + x.r.Intn(40)), Data: []byte("new")})
	b = b[:len(b)-x.r.Intn(2)*x.r.Intn(3)]
	for _, d := range []*disk.Disk{x.d, x.p.d} {
		switch kind {
		case 0:
			d.Remove(name)
		case 1:
			d.Truncate(name, cut)
		default:
			d.Create(name)
			d.Append(name, b)
		}
		if kind == 3 {
			d.Sync(name)
		}
	}
}

// numbers answers some of the log's numbers, and others.
func (x *pair) numbers() []uint64 {
	l := make([]uint64, x.r.Intn(12))
	for i := range l {
		l[i] = x.number()
	}
	return l
}

// number answers a number that is not far from the log's ones.
func (x *pair) number() uint64 {
	low := int(x.p.segs[0].first)
	return uint64(max(0, low-2+x.r.Intn(int(x.p.next)-low+6)))
}

// step does one thing, on both.
func (x *pair) step() {
	x.t.Helper()
	switch n := x.r.Intn(100); {
	case n < 60:
		data := []byte(strings.Repeat("d", x.r.Intn(1+x.r.Intn(30))))
		if n == 0 {
			data = make([]byte, 1500+x.r.Intn(2))
		}
		want, wantE := x.p.append(data)
		got, e := x.l.Append(data)
		x.tells("Append", got, e, want, wantE)
	case n < 68:
		want := x.p.sync()
		x.tells("Sync", 0, x.l.Sync(), 0, want)
	case n < 76:
		before := x.number()
		want := x.p.drop(before)
		x.tells("Drop", before, x.l.Drop(before), before, want)
	case n < 84:
		without := x.numbers()
		want, wantE := x.p.rewrite(without)
		got, e := x.l.Rewrite(without)
		x.tells("Rewrite", uint64(got), e, uint64(want), wantE)
	case n < 89:
		x.quota(x.d.Used() + x.r.Intn(60))
	case n < 91:
		x.quota(1 << 20)
	case n < 94:
		x.fuse(x.r.Intn(12))
	case n < 97:
		x.crash()
		x.open()
	default:
		x.again()
	}
}

// again opens the log behind no crash, or behind one and changes of the disk's files.
func (x *pair) again() {
	x.t.Helper()
	if x.r.Intn(2) == 0 {
		x.crash()
		for range x.r.Intn(5) {
			x.spoil()
		}
		x.fuse(x.r.Intn(6) - 1)
	}
	x.open()
}

func TestAnySteps(t *testing.T) {
	for seed := range int64(300) {
		r := rand.New(rand.NewSource(seed))
		d, _ := disk.New(1 << 20)
		twin, _ := disk.New(1 << 20)
		x := &pair{t: t, r: r, d: d, p: &plain{d: twin, place: r.Intn(4)}}
		x.open()
		for range 200 {
			x.step()
			x.p.check(t, r, x.l, d)
			if x.p.over && r.Intn(3) == 0 {
				x.crash()
				x.open()
			}
		}
	}
}

// TestTwoLogsOnOneDisk: neither changes anything of the other one's, and each is told by itself that the power is off.
func TestTwoLogsOnOneDisk(t *testing.T) {
	for seed := range int64(60) {
		r := rand.New(rand.NewSource(seed))
		d, _ := disk.New(1 << 20)
		twin, _ := disk.New(1 << 20)
		x := &pair{t: t, r: r, d: d, p: &plain{d: twin, place: 1}}
		y := &pair{t: t, r: r, d: d, p: &plain{d: twin, place: 2}}
		x.open()
		y.open()
		for range 200 {
			if d.Off() && r.Intn(4) == 0 || r.Intn(40) == 0 {
				x.crash()
				x.open()
				y.open()
			}
			z := []*pair{x, y}[r.Intn(2)]
			if r.Intn(20) == 0 {
				z.fuse(r.Intn(9))
			}
			z.walk()
			x.p.check(t, r, x.l, d)
			y.p.check(t, r, y.l, d)
		}
	}
}

// walk does one thing that is no crash.
func (x *pair) walk() {
	x.t.Helper()
	switch n := x.r.Intn(10); {
	case n < 7:
		want, wantE := x.p.append([]byte{byte(n)})
		got, e := x.l.Append([]byte{byte(n)})
		x.tells("Append", got, e, want, wantE)
	case n < 8:
		want := x.p.sync()
		x.tells("Sync", 0, x.l.Sync(), 0, want)
	case n < 9:
		before := x.number()
		want := x.p.drop(before)
		x.tells("Drop", before, x.l.Drop(before), before, want)
	default:
		without := x.numbers()
		want, wantE := x.p.rewrite(without)
		got, e := x.l.Rewrite(without)
		x.tells("Rewrite", uint64(got), e, uint64(want), wantE)
	}
}
