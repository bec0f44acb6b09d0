package index

import (
	"cmp"
	"math/rand"
	"slices"
	"testing"

	"pneumatic/api"
	"pneumatic/event"
	"pneumatic/pred"
	"pneumatic/value"
)

// plain is events one by one, by the chapter's words: what an index is held against.
type plain []held

type held struct {
	n uint64
	e api.Event
}

func (l plain) at(n uint64) int {
	return slices.IndexFunc(l, func(h held) bool { return h.n == n })
}

// add answers l with e under n, if that may be.
func (l plain) add(n uint64, e api.Event) (plain, api.Errno) {
	if !event.May(e) {
		return l, api.ErrMalformed
	}
	if l.at(n) >= 0 {
		return l, api.ErrThere
	}
	return append(slices.Clone(l), held{n, e}), api.OK
}

// remove answers l without the event under n.
func (l plain) remove(n uint64) (plain, api.Errno) {
	i := l.at(n)
	if i < 0 {
		return l, api.ErrNone
	}
	return slices.Delete(slices.Clone(l), i, i+1), api.OK
}

// query answers the numbers of those that p matches, asked one by one.
func (l plain) query(p api.Pred) ([]uint64, api.Errno) {
	if !pred.May(p) {
		return nil, api.ErrMalformed
	}
	var numbers []uint64
	for _, h := range l {
		if pred.Matches(p, h.e) {
			numbers = append(numbers, h.n)
		}
	}
	slices.Sort(numbers)
	return numbers, api.OK
}

// entries answers how many have an attribute of that name.
func (l plain) entries(name string) int {
	n := 0
	for _, h := range l {
		if _, is := event.Get(h.e, name); is {
			n++
		}
	}
	return n
}

// check holds all that x tells, but of predicates, against these, and the order of what it keeps.
func (l plain) check(t *testing.T, x *Index) {
	t.Helper()
	want, _ := l.query(nil)
	if got := x.Numbers(); !slices.Equal(got, want) {
		t.Fatalf("Numbers: %v, not %v", got, want)
	}
	names := 0
	for _, name := range []string{"a", "b", "c", "aa", "", "A"} {
		n := l.entries(name)
		if got := x.Entries(name); got != n {
			t.Fatalf("Entries(%q): %d, not %d", name, got, n)
		}
		if n > 0 {
			names++
		}
	}
	if len(x.named) != names {
		t.Fatalf("%d names kept, not %d", len(x.named), names)
	}
	for name, row := range x.named {
		if !slices.IsSortedFunc(row, func(a, b entry) int { return cmp.Or(value.Compare(a.value, b.value), cmp.Compare(a.n, b.n)) }) {
			t.Fatalf("entries of %q are not in order: %v", name, row)
		}
	}
}

// ask holds what x tells of p, or of both together, against these.
func (l plain) ask(t *testing.T, x *Index, p api.Pred) {
	t.Helper()
	want, werr := l.query(p)
	if got, err := x.Query(p); err != werr || !slices.Equal(got, want) {
		t.Fatalf("Query(%v): %v %d, not %v %d", p, got, err, want, werr)
	}
}

func oneOf[T any](r *rand.Rand, l ...T) T { return l[r.Intn(len(l))] }

func someValue(r *rand.Rand) api.Value {
	return oneOf(r, num(-1), num(0), num(1), num(2), word(""), word("x"), word("xy"), word("x\xff"), word("y"), truth(true), truth(false))
}

// somePred answers a predicate of few names and values, so that much matches, and much stands twice; some may not be.
func somePred(r *rand.Rand) api.Pred {
	var p api.Pred
	for range r.Intn(oneOf(r, 2, 3, 4, 8)) {
		c := cons(oneOf(r, "a", "a", "b", "c", "aa", "A"), 1+r.Intn(9), api.Value{})
		switch c.Op {
		case api.Has:
		case api.In:
			for range 1 + r.Intn(6) {
				c.Set = append(c.Set, someValue(r))
			}
		case api.Prefix:
			c.Value = word(oneOf(r, "", "x", "xy", "x\xff", "\xff"))
		default:
			c.Value = someValue(r)
		}
		if r.Intn(80) == 0 {
			c.Op = r.Intn(12)
		}
		p = append(p, c)
	}
	return p
}

// someEvent answers an event of few names and values; some may not be.
func someEvent(r *rand.Rand) api.Event {
	e := api.Event{Key: oneOf(r, "", "k", "a")}
	for _, name := range []string{"a", "aa", "b", "c"} {
		if r.Intn(3) > 0 {
			e.Attrs = append(e.Attrs, attr(name, someValue(r)))
		}
	}
	if r.Intn(20) == 0 {
		e.Attrs = append(e.Attrs, attr(oneOf(r, "a", "A"), someValue(r)))
	}
	return e
}

// step adds or removes one, at random, and holds the answer against what is there.
func (l plain) step(t *testing.T, r *rand.Rand, x *Index, most int) plain {
	t.Helper()
	n := uint64(r.Intn(most)) - 2
	if r.Intn(5) < 2 {
		next, want := l.remove(n)
		if err := x.Remove(n); err != want {
			t.Fatalf("Remove(%d): %d, not %d", n, err, want)
		}
		return next
	}
	e := someEvent(r)
	next, want := l.add(n, e)
	if err := x.Add(n, e); err != want {
		t.Fatalf("Add(%d, %v): %d, not %d", n, e, err, want)
	}
	return next
}

// TestPlain holds many random lives, and copies that live on by themselves, against the chapter's words (P14.4).
func TestPlain(t *testing.T) {
	for seed := range int64(150) {
		r := rand.New(rand.NewSource(seed))
		x, l := New(), plain(nil)
		y, m := x.Copy(), l
		most := oneOf(r, 4, 20, 60)
		for range 200 {
			switch r.Intn(12) {
			case 0:
				y, m = x.Copy(), l
			case 1:
				x, y, l, m = y, x, m, l
			case 2:
				m = m.step(t, r, y, most)
			default:
				l = l.step(t, r, x, most)
			}
			l.ask(t, x, somePred(r))
			m.ask(t, y, somePred(r))
		}
		l.check(t, x)
		m.check(t, y)
	}
}

// TestBothTogether holds P14.5: what both of two predicates are told, is told both together, if that may be.
func TestBothTogether(t *testing.T) {
	r := rand.New(rand.NewSource(1))
	x, l := New(), plain(nil)
	for range 80 {
		l = l.step(t, r, x, 60)
	}
	for range 4000 {
		p, q := somePred(r), somePred(r)
		both := slices.Concat(p, q)
		if !pred.May(both) {
			continue
		}
		a, _ := x.Query(p)
		b, _ := x.Query(q)
		want := slices.DeleteFunc(a, func(n uint64) bool { return !slices.Contains(b, n) })
		query(t, x, both, want...)
	}
}

// TestOrder holds P14.4: in whatever order the same is added, the same is told and kept.
func TestOrder(t *testing.T) {
	r := rand.New(rand.NewSource(2))
	var l plain
	for n := range uint64(30) {
		if next, err := l.add(n, someEvent(r)); err == api.OK {
			l = next
		}
	}
	first := l.fill(t, r.Perm(len(l)))
	for range 20 {
		x := l.fill(t, r.Perm(len(l)))
		l.check(t, x)
		for name, row := range x.named {
			if !slices.Equal(row, first.named[name]) {
				t.Fatalf("entries of %q: %v, not %v", name, row, first.named[name])
			}
		}
		for range 50 {
			l.ask(t, x, somePred(r))
		}
	}
}

// fill answers an index of these, put there in that order.
func (l plain) fill(t *testing.T, order []int) *Index {
	t.Helper()
	x := New()
	for _, i := range order {
		if err := x.Add(l[i].n, l[i].e); err != api.OK {
			t.Fatal(err)
		}
	}
	return x
}

// TestParts holds that the pieces told of a constraint have just the entries of which it holds, each once.
func TestParts(t *testing.T) {
	r := rand.New(rand.NewSource(3))
	for range 100 {
		x, l := New(), plain(nil)
		for range r.Intn(60) {
			l = l.step(t, r, x, 60)
		}
		for range 60 {
			p, err := pred.Normal(somePred(r))
			if err != api.OK {
				continue
			}
			for _, c := range p {
				holdParts(t, x.named[c.Name], c)
			}
		}
	}
}

func holdParts(t *testing.T, l []entry, c api.Constraint) {
	t.Helper()
	all, count := parts(l, c)
	got := slices.Concat(all...)
	want := slices.DeleteFunc(slices.Clone(l), func(e entry) bool { return !pred.Holds(c, e.value) })
	if count != len(want) || !slices.Equal(got, want) {
		t.Fatalf("parts of %v: %v (%d), not %v", c, got, count, want)
	}
}

// TestOnlyTheFewest holds that a query looks at no more entries than the constraint that has the fewest.
func TestOnlyTheFewest(t *testing.T) {
	x := New()
	for n := range uint64(1000) {
		if err := x.Add(n, with(attr("a", num(int64(n%2))), attr("b", num(int64(n))))); err != api.OK {
			t.Fatal(err)
		}
	}
	p, _ := pred.Normal(of(has("a"), cons("a", api.Eq, num(1)), cons("b", api.Lt, num(4)), cons("b", api.Ge, num(0))))
	looked := 0
	for _, part := range x.fewest(p) {
		looked += len(part)
	}
	if looked != 4 {
		t.Error(looked)
	}
	query(t, x, p, 1, 3)
}
