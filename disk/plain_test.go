package disk

import (
	"bytes"
	"math/rand"
	"slices"
	"strings"
	"testing"

	"pneumatic/api"
)

// plain is a disk by the words of the chapter alone: what a Disk is held against.
type plain struct {
	files []leaf // by rising names
	quota int
	fused bool
	fuse  int
	off   bool
}

// leaf is a file; each of its bytes says whether it is loose.
type leaf struct {
	name  string
	bytes []bit
}

type bit struct {
	b     byte
	loose bool
}

// find answers where the file of that name is, or would be, and whether it is there.
func (p *plain) find(name string) (int, bool) {
	return slices.BinarySearchFunc(p.files, name, func(f leaf, name string) int { return strings.Compare(f.name, name) })
}

func (p *plain) is(name string) bool {
	_, is := p.find(name)
	return is
}

func (p *plain) used() int {
	n := 0
	for _, f := range p.files {
		n += len(f.bytes)
	}
	return n
}

// is tells whether it is a file's name.
func isName(name string) bool {
	return len(name) > 0 && len(name) <= 32 && strings.Trim(name, "abcdefghijklmnopqrstuvwxyz0123456789-.") == ""
}

// step is a call that changes something, and what it is given.
type step struct {
	call  string
	name  string
	other string // of Rename: the new name
	b     []byte
	size  int
}

// err answers the error that the step's call tells, but for the power that goes.
func (p *plain) err(s step) api.Errno {
	if p.off {
		return api.ErrOff
	}
	i, is := p.find(s.name)
	switch {
	case !isName(s.name), s.call == "rename" && !isName(s.other), s.call == "truncate" && s.size < 0:
		return api.ErrArg
	case s.call == "create" && is:
		return api.ErrThere
	case s.call == "create" && len(p.files) == 512:
		return api.ErrFull
	case s.call == "create":
		return api.OK
	case !is:
		return api.ErrNone
	case s.call == "append" && p.used()+len(s.b) > p.quota:
		return api.ErrFull
	case s.call == "truncate" && s.size > len(p.files[i].bytes):
		return api.ErrArg
	}
	return api.OK
}

// do does the step, and answers its error.
func (p *plain) do(s step) api.Errno {
	if err := p.err(s); err != api.OK {
		return err
	}
	if p.fused && p.fuse == 0 {
		p.off, p.fused = true, false
		return api.ErrOff
	}
	if p.fused {
		p.fuse--
	}
	i, _ := p.find(s.name)
	switch s.call {
	case "create":
		p.files = slices.Insert(p.files, i, leaf{name: s.name})
	case "append":
		for _, c := range s.b {
			p.files[i].bytes = append(p.files[i].bytes, bit{c, true})
		}
	case "sync":
		p.settle(i)
	case "rename":
		p.rename(i, s.other)
	case "truncate":
		p.files[i].bytes = slices.Clone(p.files[i].bytes[:s.size])
	case "remove":
		p.files = slices.Delete(p.files, i, i+1)
	}
	return api.OK
}

func (p *plain) settle(i int) {
	for j := range p.files[i].bytes {
		p.files[i].bytes[j].loose = false
	}
}

func (p *plain) rename(i int, name string) {
	f := p.files[i]
	p.files = slices.Delete(p.files, i, i+1)
	if j, is := p.find(name); is {
		p.files = slices.Delete(p.files, j, j+1)
	}
	j, _ := p.find(name)
	f.name = name
	p.files = slices.Insert(p.files, j, f)
}

func (f leaf) loose() int {
	n := 0
	for _, b := range f.bytes {
		if b.loose {
			n++
		}
	}
	return n
}

func (p *plain) crash(picks []uint16, torn []byte) {
	k := 0
	for i, f := range p.files {
		u := f.loose()
		if u == 0 {
			continue
		}
		stay := 0
		if k < len(picks) {
			for stay = int(picks[k]); stay >= u+1; stay -= u + 1 {
			}
		}
		f.bytes = f.bytes[:len(f.bytes)-u+stay]
		if stay > 0 && k < len(torn) {
			f.bytes[len(f.bytes)-1].b ^= torn[k]
		}
		p.files[i] = f
		p.settle(i)
		k++
	}
	p.off, p.fused = false, false
}

// run does the step on a Disk.
func run(d *Disk, s step) api.Errno {
	switch s.call {
	case "create":
		return d.Create(s.name)
	case "append":
		return d.Append(s.name, s.b)
	case "sync":
		return d.Sync(s.name)
	case "rename":
		return d.Rename(s.name, s.other)
	case "truncate":
		return d.Truncate(s.name, s.size)
	case "remove":
		return d.Remove(s.name)
	}
	panic(s.call)
}

// check holds all that d tells against p; of names, too, that it has not.
func (p *plain) check(t *testing.T, d *Disk) {
	t.Helper()
	var names []string
	used := 0
	for _, f := range p.files {
		names = append(names, f.name)
		used += len(f.bytes)
	}
	asked := append(slices.Clone(names), pool()...)
	if p.off {
		names, used = nil, 0
	}
	if l, n, off := d.Names(), d.Used(), d.Off(); !slices.Equal(l, names) || n != used || off != p.off {
		t.Fatalf("Names %q, not %q; Used %d, not %d; Off %v, not %v", l, names, n, used, off, p.off)
	}
	for _, name := range asked {
		p.look(t, d, name)
	}
}

// look holds what d tells of one name against p.
func (p *plain) look(t *testing.T, d *Disk, name string) {
	t.Helper()
	var want []byte
	loose, err := 0, api.OK
	i, is := p.find(name)
	switch {
	case p.off:
		err = api.ErrOff
	case !isName(name):
		err = api.ErrArg
	case !is:
		err = api.ErrNone
	default:
		for _, b := range p.files[i].bytes {
			want = append(want, b.b)
		}
		loose = p.files[i].loose()
	}
	if b, e := d.Read(name); e != err || !bytes.Equal(b, want) {
		t.Fatalf("Read(%q): %x, %d, not %x, %d", name, b, e, want, err)
	}
	if n, e := d.Size(name); e != err || n != len(want) {
		t.Fatalf("Size(%q): %d, %d, not %d, %d", name, n, e, len(want), err)
	}
	if n := d.Loose(name); n != loose {
		t.Fatalf("Loose(%q): %d, not %d", name, n, loose)
	}
}

// pool answers names, some of which are none.
func pool() []string {
	return []string{"a", "b", "b.", "c-1", "0", strings.Repeat("z", 32), "", "B", "a b", strings.Repeat("z", 33)}
}

// pick answers one of l; one of the first ones more often than not.
func pick(r *rand.Rand, l []string) string {
	if r.Intn(10) > 0 {
		l = l[:len(l)*6/10]
	}
	return l[r.Intn(len(l))]
}

// anyStep answers some step, right or wrong.
func anyStep(r *rand.Rand) step {
	calls := []string{"create", "create", "append", "append", "append", "append", "sync", "rename", "truncate", "remove"}
	s := step{call: calls[r.Intn(len(calls))], name: pick(r, pool()), other: pick(r, pool())}
	s.b = make([]byte, r.Intn(5))
	r.Read(s.b)
	s.size = r.Intn(10) - 1
	return s
}

// anyCrash answers what a crash may be given: shorter and longer than there are files.
func anyCrash(r *rand.Rand) ([]uint16, []byte) {
	picks, torn := make([]uint16, r.Intn(6)), make([]byte, r.Intn(6))
	for i := range picks {
		picks[i] = uint16(r.Intn(1 << (1 + r.Intn(16))))
	}
	r.Read(torn)
	return picks, torn
}

// walk does some steps on both, fuses, quotas and crashes among them, and holds all that is told against each other.
func walk(t *testing.T, r *rand.Rand, d *Disk, p *plain, steps int) {
	t.Helper()
	for range steps {
		switch n := r.Intn(40); {
		case n == 0 || p.off && n < 20:
			picks, torn := anyCrash(r)
			if err := d.Crash(picks, torn); err != api.OK {
				t.Fatal("Crash:", err)
			}
			p.crash(picks, torn)
		case n < 3:
			fuse(t, r.Intn(9)-2, d, p)
		case n < 5 || p.off && n < 22:
			quota(t, []int{-1, 0, 5, 20, 30, 40, 50, 1 << 22, 1<<22 + 1}[r.Intn(9)], d, p)
		default:
			s := anyStep(r)
			want := p.do(s)
			if err := run(d, s); err != want {
				t.Fatalf("%v: %d, not %d", s, err, want)
			}
		}
		p.check(t, d)
	}
}

func fuse(t *testing.T, n int, d *Disk, p *plain) {
	t.Helper()
	want := api.OK
	switch {
	case p.off:
		want = api.ErrOff
	case n < -1:
		want = api.ErrArg
	default:
		p.fused, p.fuse = n >= 0, n
	}
	if err := d.Fuse(n); err != want {
		t.Fatalf("Fuse(%d): %d, not %d", n, err, want)
	}
}

func quota(t *testing.T, n int, d *Disk, p *plain) {
	t.Helper()
	want := api.OK
	if n < 0 || n > 1<<22 {
		want = api.ErrArg
	} else {
		p.quota = n
	}
	if err := d.Quota(n); err != want {
		t.Fatalf("Quota(%d): %d, not %d", n, err, want)
	}
}

func TestAnySteps(t *testing.T) {
	for seed := range int64(400) {
		r := rand.New(rand.NewSource(seed))
		q := r.Intn(50)
		d, err := New(q)
		if err != api.OK {
			t.Fatal(err)
		}
		walk(t, r, d, &plain{quota: q}, 300)
	}
}

// TestTwoDisksAtOnce holds that nothing of one disk is to be seen in another one.
func TestTwoDisksAtOnce(t *testing.T) {
	for seed := range int64(40) {
		r := rand.New(rand.NewSource(seed))
		d, _ := New(40)
		e, _ := New(20)
		p, q := &plain{quota: 40}, &plain{quota: 20}
		for range 30 {
			walk(t, r, d, p, r.Intn(8))
			walk(t, r, e, q, r.Intn(8))
			p.check(t, d)
		}
	}
}
