package index

import (
	"math"
	"slices"
	"strings"
	"testing"

	"pneumatic/api"
	"pneumatic/pred"
	"pneumatic/value"
)

func num(n int64) api.Value   { return value.Number(n) }
func word(s string) api.Value { return value.Word(s) }
func truth(b bool) api.Value  { return value.Truth(b) }

func has(name string) api.Constraint { return api.Constraint{Name: name, Op: api.Has} }

func cons(name string, op int, v api.Value) api.Constraint {
	return api.Constraint{Name: name, Op: op, Value: v}
}

func in(name string, set ...api.Value) api.Constraint {
	return api.Constraint{Name: name, Op: api.In, Set: set}
}

func of(l ...api.Constraint) api.Pred { return l }

func attr(name string, v api.Value) api.Attr { return api.Attr{Name: name, Value: v} }

func with(l ...api.Attr) api.Event { return api.Event{Attrs: l} }

// ns is numbers in a row.
func ns(l ...uint64) []uint64 { return l }

// query holds what x tells of p.
func query(t *testing.T, x *Index, p api.Pred, want ...uint64) {
	t.Helper()
	if l, err := x.Query(p); err != api.OK || !slices.Equal(l, want) {
		t.Errorf("Query(%v): %v %d, not %v", p, l, err, want)
	}
}

// three is the index of the chapter's examples.
func three(t *testing.T) *Index {
	t.Helper()
	x := New()
	for _, err := range []api.Errno{x.Add(5, with(attr("a", num(1)))), x.Add(3, with(attr("a", num(2)), attr("b", word("x")))), x.Add(9, with(attr("a", word("1"))))} {
		if err != api.OK {
			t.Fatal(err)
		}
	}
	return x
}

func TestExamples(t *testing.T) {
	x := three(t)
	query(t, x, of(cons("a", api.Ge, num(1))), 3, 5)
	query(t, x, of(has("a")), 3, 5, 9)
	query(t, x, of(cons("b", api.Prefix, word("x")), cons("a", api.Eq, num(2))), 3)
	query(t, x, of(cons("a", api.Ne, num(1))), 3)
	if err := x.Add(5, with(attr("a", num(1)))); err != api.ErrThere {
		t.Error(err)
	}
	if a, b := x.Remove(5), x.Remove(5); a != api.OK || b != api.ErrNone {
		t.Error(a, b)
	}
	query(t, x, of(cons("a", api.Ge, num(1))), 3)
}

// TestNew holds an index without events.
func TestNew(t *testing.T) {
	x := New()
	query(t, x, nil)
	query(t, x, of(has("a")))
	query(t, x, of(cons("a", api.Ne, num(1)), in("b", num(1))))
	if l := x.Numbers(); len(l) != 0 {
		t.Error(l)
	}
	for _, name := range []string{"a", "", "A"} {
		if n := x.Entries(name); n != 0 {
			t.Error(name, n)
		}
	}
	for _, n := range ns(0, 1, math.MaxUint64) {
		if err := x.Remove(n); err != api.ErrNone {
			t.Error(n, err)
		}
	}
	if y := x.Copy(); y == nil || y == x || len(y.Numbers()) != 0 || y.Add(1, with()) != api.OK || len(x.Numbers()) != 0 {
		t.Error("Copy of an empty index")
	}
}

// TestNotMade holds what New did not make: ErrNil is ahead of all else.
func TestNotMade(t *testing.T) {
	odd := with(attr("A", num(1)))
	for _, x := range []*Index{nil, {}, new(Index)} {
		for _, e := range []api.Event{{}, with(attr("a", num(1))), odd} {
			if err := x.Add(1, e); err != api.ErrNil {
				t.Error(e, err)
			}
		}
		for _, p := range []api.Pred{nil, of(has("a")), {{}}} {
			if l, err := x.Query(p); err != api.ErrNil || len(l) != 0 {
				t.Error(p, l, err)
			}
		}
		for _, n := range ns(0, 1) {
			if err := x.Remove(n); err != api.ErrNil {
				t.Error(n, err)
			}
		}
		if len(x.Numbers()) != 0 || x.Entries("a") != 0 || x.Entries("") != 0 || x.Copy() != nil {
			t.Error(x.Numbers(), x.Entries("a"), x.Copy())
		}
	}
}

// oddEvents answers events that may not be.
func oddEvents() []api.Event {
	l := []api.Event{
		with(attr("A", num(1))), with(attr("", num(1))), with(attr(strings.Repeat("a", 17), num(1))),
		with(attr("b", num(1)), attr("a", num(1))), with(attr("a", num(1)), attr("a", num(1))), with(attr("a", num(1)), attr("a", num(2))),
		with(attr("a", api.Value{})), with(attr("a", api.Value{Kind: 4})), with(attr("a", api.Value{Kind: api.Int, Str: "x"})), with(attr("a", word(strings.Repeat("x", 33)))),
		{Key: strings.Repeat("k", 17)},
	}
	var nine api.Event
	for _, c := range "abcdefghi" {
		nine.Attrs = append(nine.Attrs, attr(string(c), num(1)))
	}
	return append(l, nine)
}

func TestAddErrors(t *testing.T) {
	x := three(t)
	for _, e := range oddEvents() {
		for _, n := range ns(0, 5, 7, math.MaxUint64) {
			if err := x.Add(n, e); err != api.ErrMalformed {
				t.Errorf("Add(%d, %v): %d", n, e, err)
			}
		}
	}
	for _, n := range ns(3, 5, 9) {
		for _, e := range []api.Event{{}, with(attr("a", num(1))), with(attr("z", num(7)))} {
			if err := x.Add(n, e); err != api.ErrThere {
				t.Errorf("Add(%d, %v): %d", n, e, err)
			}
		}
	}
	untouched(t, x)
}

// untouched holds that x is as three made it.
func untouched(t *testing.T, x *Index) {
	t.Helper()
	if l := x.Numbers(); !slices.Equal(l, ns(3, 5, 9)) {
		t.Error(l)
	}
	if a, b, z := x.Entries("a"), x.Entries("b"), x.Entries("z"); a != 3 || b != 1 || z != 0 {
		t.Error(a, b, z)
	}
	query(t, x, nil, 3, 5, 9)
	query(t, x, of(cons("a", api.Eq, num(1))), 5)
	query(t, x, of(cons("a", api.Eq, num(2))), 3)
	query(t, x, of(cons("a", api.Eq, word("1"))), 9)
	query(t, x, of(cons("b", api.Eq, word("x"))), 3)
}

func TestRemoveErrors(t *testing.T) {
	x := three(t)
	for _, n := range ns(0, 1, 2, 4, 6, 8, 10, 1<<40, math.MaxUint64) {
		if err := x.Remove(n); err != api.ErrNone {
			t.Error(n, err)
		}
	}
	untouched(t, x)
}

func TestQueryMalformed(t *testing.T) {
	x := three(t)
	for _, p := range []api.Pred{
		{{}}, {{Name: "a"}}, {{Name: "a", Op: 10}}, {{Name: "a", Op: -1}}, {has("")}, {has(strings.Repeat("a", 17))}, {has("a"), has("")}, {cons("a", api.Eq, api.Value{})},
		{cons("a", api.Prefix, num(1))}, {in("a")}, {cons("a", api.Has, num(0))}, {cons("a", api.Eq, word(strings.Repeat("x", 33)))},
		slices.Repeat(of(has("a")), 7), {in("a", slices.Repeat([]api.Value{num(1)}, 7)...)}, {{Name: "zz", Op: api.Eq}},
	} {
		if l, err := x.Query(p); err != api.ErrMalformed || len(l) != 0 {
			t.Errorf("Query(%v): %v %d", p, l, err)
		}
	}
	untouched(t, x)
}

// TestNumbersOfAnySize holds the least and the greatest numbers, in the order of whole numbers without a sign.
func TestNumbersOfAnySize(t *testing.T) {
	x := New()
	all := ns(0, 1, 9, 10, math.MaxInt64, math.MaxInt64+1, math.MaxUint64-1, math.MaxUint64)
	for i := range all {
		if err := x.Add(all[(i*5+3)%len(all)], with(attr("a", num(int64(-i))), attr("b", num(7)))); err != api.OK {
			t.Fatal(err)
		}
	}
	if l := x.Numbers(); !slices.Equal(l, all) {
		t.Error(l)
	}
	for _, p := range []api.Pred{nil, of(has("a")), of(has("b")), of(cons("a", api.Le, num(0))), of(cons("b", api.Eq, num(7)))} {
		query(t, x, p, all...)
	}
	for i, n := range all {
		if err := x.Remove(n); err != api.OK {
			t.Fatal(n, err)
		}
		query(t, x, of(has("b")), all[i+1:]...)
	}
}

// everyKind answers events with an a of each Kind, 1 to 12 by the rising order of values, but put there in another one.
func everyKind(t *testing.T) *Index {
	t.Helper()
	x := New()
	l := []api.Value{num(math.MinInt64), num(-1), num(0), num(1), num(math.MaxInt64), word(""), word("x"), word("x\x00"), word("xy"), word("x\xff\xff"), truth(false), truth(true)}
	for i := range l {
		k := (i*7 + 4) % len(l)
		if err := x.Add(uint64(k+1), with(attr("a", l[k]))); err != api.OK {
			t.Fatal(err)
		}
	}
	if x.Add(13, with()) != api.OK || x.Add(14, with(attr("b", num(0)))) != api.OK {
		t.Fatal("add")
	}
	return x
}

func TestQueryByOp(t *testing.T) {
	x := everyKind(t)
	for _, c := range []struct {
		op   int
		v    api.Value
		want []uint64
	}{
		{api.Eq, num(0), ns(3)}, {api.Ne, num(0), ns(1, 2, 4, 5)}, {api.Lt, num(0), ns(1, 2)}, {api.Le, num(0), ns(1, 2, 3)}, {api.Gt, num(0), ns(4, 5)}, {api.Ge, num(0), ns(3, 4, 5)},
		{api.Eq, num(7), nil}, {api.Ne, num(7), ns(1, 2, 3, 4, 5)}, {api.Lt, num(7), ns(1, 2, 3, 4)}, {api.Ge, num(7), ns(5)},
		{api.Lt, num(math.MinInt64), nil}, {api.Ge, num(math.MinInt64), ns(1, 2, 3, 4, 5)}, {api.Gt, num(math.MaxInt64), nil}, {api.Le, num(math.MaxInt64), ns(1, 2, 3, 4, 5)}, {api.Ne, num(math.MinInt64), ns(2, 3, 4, 5)},
		{api.Eq, word(""), ns(6)}, {api.Ne, word(""), ns(7, 8, 9, 10)}, {api.Lt, word(""), nil}, {api.Le, word(""), ns(6)}, {api.Gt, word(""), ns(7, 8, 9, 10)}, {api.Ge, word(""), ns(6, 7, 8, 9, 10)},
		{api.Eq, word("0"), nil}, {api.Lt, word("xy"), ns(6, 7, 8)}, {api.Gt, word("xy"), ns(10)}, {api.Ge, word("y"), nil}, {api.Lt, word("y"), ns(6, 7, 8, 9, 10)}, {api.Ne, word("xy"), ns(6, 7, 8, 10)},
		{api.Prefix, word(""), ns(6, 7, 8, 9, 10)}, {api.Prefix, word("x"), ns(7, 8, 9, 10)}, {api.Prefix, word("xy"), ns(9)}, {api.Prefix, word("x\x00"), ns(8)}, {api.Prefix, word("x\xff"), ns(10)}, {api.Prefix, word("\xff"), nil}, {api.Prefix, word("X"), nil}, {api.Prefix, word("xyz"), nil}, {api.Prefix, word("xa"), nil},
		{api.Eq, truth(false), ns(11)}, {api.Ne, truth(false), ns(12)}, {api.Lt, truth(false), nil}, {api.Le, truth(false), ns(11)}, {api.Gt, truth(false), ns(12)}, {api.Ge, truth(false), ns(11, 12)}, {api.Lt, truth(true), ns(11)}, {api.Ge, truth(true), ns(12)}, {api.Ne, truth(true), ns(11)},
	} {
		query(t, x, of(cons("a", c.op, c.v)), c.want...)
	}
	query(t, x, of(has("a")), 1, 2, 3, 4, 5, 6, 7, 8, 9, 10, 11, 12)
	query(t, x, nil, x.Numbers()...)
}

func TestQueryIn(t *testing.T) {
	x := everyKind(t)
	query(t, x, of(in("a", truth(true), word("xy"), num(0))), 3, 9, 12)
	query(t, x, of(in("a", num(0), num(0), num(0))), 3)
	query(t, x, of(in("a", num(1), num(0), num(1), num(-1), num(0), num(7))), 2, 3, 4)
	query(t, x, of(in("a", word("0"), word("z"))))
	query(t, x, of(in("b", num(0))), 14)
	query(t, x, of(in("c", num(0))))
}

// TestQueryManyOfOne holds several constraints of one name, and of several names.
func TestQueryManyOfOne(t *testing.T) {
	x := everyKind(t)
	if err := x.Add(15, with(attr("a", num(0)), attr("b", word("x")), attr("c", truth(true)))); err != api.OK {
		t.Fatal(err)
	}
	query(t, x, of(cons("a", api.Ge, num(-1)), cons("a", api.Lt, num(1))), 2, 3, 15)
	query(t, x, of(cons("a", api.Ge, num(0)), cons("a", api.Ge, num(0)), has("a"), has("a")), 3, 4, 5, 15)
	query(t, x, of(cons("a", api.Ne, num(0)), cons("a", api.Ne, num(1)), cons("a", api.Ne, num(-1))), 1, 5)
	query(t, x, of(cons("a", api.Lt, num(0)), cons("a", api.Gt, num(0))))
	query(t, x, of(cons("a", api.Ge, num(0)), cons("a", api.Ge, word(""))))
	query(t, x, of(has("a"), has("b")), 15)
	query(t, x, of(has("b")), 14, 15)
	query(t, x, of(has("c"), cons("b", api.Prefix, word("")), cons("a", api.Le, num(0))), 15)
	query(t, x, of(has("a"), has("z")))
	query(t, x, of(has("z"), has("a")))
	query(t, x, of(has("A")))
	query(t, x, of(has("a\xff b")))
}

func TestEntries(t *testing.T) {
	x := New()
	for n := range uint64(20) {
		e := with(attr("a", num(int64(n%3))))
		if n%2 == 0 {
			e.Attrs = append(e.Attrs, attr("b", num(7)))
		}
		if err := x.Add(n, e); err != api.OK {
			t.Fatal(err)
		}
	}
	if a, b, c, none := x.Entries("a"), x.Entries("b"), x.Entries("c"), x.Entries(""); a != 20 || b != 10 || c != 0 || none != 0 {
		t.Error(a, b, c, none)
	}
	for n := range uint64(20) {
		if err := x.Remove(n); err != api.OK {
			t.Fatal(err)
		}
	}
	if a, b := x.Entries("a"), x.Entries("b"); a != 0 || b != 0 {
		t.Error(a, b)
	}
}

// TestCopy holds that what is done to one of both is not seen in the other one.
func TestCopy(t *testing.T) {
	x := three(t)
	y := x.Copy()
	untouched(t, y)
	if x.Remove(5) != api.OK || x.Add(1, with(attr("a", num(0)), attr("z", num(1)))) != api.OK || x.Remove(9) != api.OK {
		t.Fatal("change")
	}
	untouched(t, y)
	x = three(t)
	y = x.Copy()
	if y.Remove(3) != api.OK || y.Add(1, with(attr("a", num(0)), attr("z", num(1)))) != api.OK || y.Remove(5) != api.OK || y.Add(5, with(attr("b", word("x")))) != api.OK {
		t.Fatal("change")
	}
	untouched(t, x)
	z := y.Copy()
	if l := z.Numbers(); !slices.Equal(l, ns(1, 5, 9)) {
		t.Error(l)
	}
	query(t, z, of(cons("b", api.Eq, word("x"))), 5)
	query(t, z, of(has("a")), 1, 9)
	query(t, x.Copy().Copy(), of(has("a")), 3, 5, 9)
}

// TestApart holds two indexes at once.
func TestApart(t *testing.T) {
	x, y := New(), New()
	if x.Add(1, with(attr("a", num(1)))) != api.OK || y.Add(1, with(attr("a", num(2)))) != api.OK || x.Add(2, with(attr("a", num(2)))) != api.OK {
		t.Fatal("add")
	}
	query(t, x, of(cons("a", api.Eq, num(2))), 2)
	query(t, y, of(cons("a", api.Eq, num(2))), 1)
	if x.Remove(1) != api.OK || len(y.Numbers()) != 1 || y.Entries("a") != 1 {
		t.Error(y.Numbers())
	}
}

// TestTrace holds P14.5: what was added and removed leaves nothing, in what is told and in what is kept.
func TestTrace(t *testing.T) {
	x := three(t)
	for n := range uint64(3) {
		if x.Add(n, with(attr("a", num(1)), attr("b", word("x")), attr("q", num(int64(n))))) != api.OK {
			t.Fatal("add")
		}
	}
	for n := range uint64(3) {
		if x.Remove(n) != api.OK {
			t.Fatal("remove")
		}
	}
	untouched(t, x)
	for _, n := range ns(3, 5, 9) {
		if x.Remove(n) != api.OK {
			t.Fatal("remove")
		}
	}
	if len(x.events) != 0 || len(x.named) != 0 {
		t.Error(x.events, x.named)
	}
}

// TestOther holds a number that is removed and added again, with another event.
func TestOther(t *testing.T) {
	x := three(t)
	if x.Remove(5) != api.OK || x.Add(5, with(attr("b", num(1)))) != api.OK {
		t.Fatal("change")
	}
	query(t, x, of(has("a")), 3, 9)
	query(t, x, of(cons("a", api.Eq, num(1))))
	query(t, x, of(has("b")), 3, 5)
	query(t, x, of(cons("b", api.Eq, num(1))), 5)
}

// TestGivenIsNotKept holds R3: what is changed behind a call, by whom it came from, changes nothing.
func TestGivenIsNotKept(t *testing.T) {
	l := []api.Attr{attr("a", num(1)), attr("b", word("x"))}
	x := New()
	if err := x.Add(7, api.Event{Key: "k", Attrs: l}); err != api.OK {
		t.Fatal(err)
	}
	if l[0] != attr("a", num(1)) || l[1] != attr("b", word("x")) {
		t.Error("Add changed what it was given:", l)
	}
	l[0], l[1] = attr("c", num(9)), attr("d", num(9))
	query(t, x, of(cons("a", api.Eq, num(1)), has("b")), 7)
	query(t, x, of(has("c")))
	set := []api.Value{num(2), num(1), num(2)}
	p := of(has("b"), in("a", set...))
	query(t, x, p, 7)
	if p[0].Name != "b" || p[1].Name != "a" || !slices.Equal(set, []api.Value{num(2), num(1), num(2)}) || !pred.Same(p, of(has("b"), in("a", num(2), num(1), num(2)))) {
		t.Error("Query changed what it was given:", p)
	}
	if x.Remove(7) != api.OK || len(x.named) != 0 {
		t.Error("Remove went by what was changed:", x.named)
	}
}

// TestAnsweredIsNew holds R3: what is done to an answer changes no other one.
func TestAnsweredIsNew(t *testing.T) {
	x := three(t)
	for _, p := range []api.Pred{nil, of(has("a")), of(cons("b", api.Eq, word("x")))} {
		l, _ := x.Query(p)
		clear(l)
		_ = append(l[:0], 7, 7, 7)
	}
	clear(x.Numbers())
	untouched(t, x)
}
