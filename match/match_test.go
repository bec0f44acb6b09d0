package match

import (
	"math"
	"math/rand"
	"slices"
	"strings"
	"testing"

	"pneumatic/api"
	"pneumatic/event"
	"pneumatic/pred"
	"pneumatic/value"
)

func num(n int64) api.Value   { return value.Number(n) }
func word(s string) api.Value { return value.Word(s) }
func truth(b bool) api.Value  { return value.Truth(b) }

func has(name string) api.Constraint { return api.Constraint{Name: name, Op: api.Has} }

func cons(name string, op int, v api.Value) api.Constraint {
	return api.Constraint{Name: name, Op: op, Value: v}
}

func in(name string, set ...api.Value) api.Constraint {
	return api.Constraint{Name: name, Op: api.In, Set: set}
}

func of(l ...api.Constraint) api.Pred { return l }

func attr(name string, v api.Value) api.Attr { return api.Attr{Name: name, Value: v} }

func with(l ...api.Attr) api.Event { return api.Event{Attrs: l} }

// rows is predicates by their numbers, one by one as they were added: what an index is held against.
type rows []row

type row struct {
	id int
	p  api.Pred
}

// index answers an index of these.
func (l rows) index(t *testing.T) *Index {
	t.Helper()
	x := New()
	for _, r := range l {
		if err := x.Add(r.id, r.p); err != api.OK {
			t.Fatalf("Add(%d, %v): %d", r.id, r.p, err)
		}
	}
	return x
}

// match answers which of them match e, asked one by one.
func (l rows) match(e api.Event) []int {
	var ids []int
	for _, r := range l {
		if pred.Matches(r.p, e) {
			ids = append(ids, r.id)
		}
	}
	slices.Sort(ids)
	return ids
}

// looks answers how many constraints of their normal forms are of a Name that e has.
func (l rows) looks(e api.Event) int {
	n := 0
	for _, r := range l {
		p, _ := pred.Normal(r.p)
		for _, c := range p {
			if _, is := event.Get(e, c.Name); is {
				n++
			}
		}
	}
	return n
}

// check holds all that x tells, but of events, against these.
func (l rows) check(t *testing.T, x *Index) {
	t.Helper()
	var ids []int
	for _, r := range l {
		ids = append(ids, r.id)
		want, _ := pred.Normal(r.p)
		if p, is := x.Get(r.id); !is || !pred.Same(p, want) {
			t.Fatalf("Get(%d): %v %v, not %v", r.id, p, is, want)
		}
	}
	slices.Sort(ids)
	if got := x.Ids(); !slices.Equal(got, ids) {
		t.Fatalf("Ids: %v, not %v", got, ids)
	}
}

// ask holds what x tells of e against these.
func (l rows) ask(t *testing.T, x *Index, e api.Event) {
	t.Helper()
	if got, want := x.Match(e), l.match(e); !slices.Equal(got, want) {
		t.Fatalf("Match(%v): %v, not %v", e, got, want)
	}
	if got, want := x.Looks(e), l.looks(e); got != want {
		t.Fatalf("Looks(%v): %d, not %d", e, got, want)
	}
}

// three is the index of the chapter's examples.
func three() rows {
	return rows{
		{5, of(cons("a", api.Ge, num(1)))},
		{2, nil},
		{9, of(cons("a", api.Lt, num(1)), has("b"))},
	}
}

func TestExamples(t *testing.T) {
	x := three().index(t)
	if l := x.Match(with(attr("a", num(1)))); !slices.Equal(l, []int{2, 5}) {
		t.Error(l)
	}
	if l := x.Match(with(attr("a", num(0)), attr("b", word("")))); !slices.Equal(l, []int{2, 9}) {
		t.Error(l)
	}
	if n, m := x.Looks(with(attr("a", num(1)))), x.Looks(with(attr("c", num(1)))); n != 2 || m != 0 {
		t.Error(n, m)
	}
	if a, b, c := x.Add(5, of(has("z"))), x.Add(-1, of(has("z"))), x.Remove(7); a != api.ErrThere || b != api.ErrArg || c != api.ErrNone {
		t.Error(a, b, c)
	}
	three().check(t, x)
}

// TestNew holds an index without predicates.
func TestNew(t *testing.T) {
	if Most != 256 {
		t.Error("Most is", Most)
	}
	x := New()
	none := rows{}
	none.check(t, x)
	for _, e := range []api.Event{{}, with(attr("a", num(1))), {Key: "k"}} {
		none.ask(t, x, e)
	}
	for _, id := range []int{-1, 0, 1, 256, math.MaxInt, math.MinInt} {
		if p, is := x.Get(id); is || len(p) != 0 {
			t.Error(id, p)
		}
		if err := x.Remove(id); err != api.ErrNone {
			t.Error(id, err)
		}
	}
}

// TestNotMade holds what New did not make: ErrNil is ahead of all else.
func TestNotMade(t *testing.T) {
	odd := api.Pred{{}}
	e := with(attr("a", num(1)))
	for _, x := range []*Index{nil, {}, new(Index)} {
		for _, id := range []int{-1, 0, 5} {
			for _, p := range []api.Pred{nil, of(has("a")), odd} {
				if err := x.Add(id, p); err != api.ErrNil {
					t.Error(id, p, err)
				}
			}
			if err := x.Remove(id); err != api.ErrNil {
				t.Error(id, err)
			}
			if p, is := x.Get(id); is || len(p) != 0 {
				t.Error(id, p, is)
			}
		}
		if l := x.Ids(); len(l) != 0 {
			t.Error(l)
		}
		for _, e := range []api.Event{e, {}} {
			if l, n := x.Match(e), x.Looks(e); len(l) != 0 || n != 0 {
				t.Error(e, l, n)
			}
		}
	}
}

// TestApart holds two indexes at once.
func TestApart(t *testing.T) {
	x, y := New(), New()
	if x.Add(1, of(has("a"))) != api.OK || y.Add(1, of(has("b"))) != api.OK || x.Add(2, nil) != api.OK {
		t.Fatal("add")
	}
	e := with(attr("a", num(1)))
	if !slices.Equal(x.Match(e), []int{1, 2}) || len(y.Match(e)) != 0 || len(y.Ids()) != 1 {
		t.Error(x.Match(e), y.Match(e), y.Ids())
	}
	if x.Remove(1) != api.OK || len(y.Ids()) != 1 || len(y.Match(with(attr("b", num(1))))) != 1 {
		t.Error(y.Ids())
	}
}

func TestGet(t *testing.T) {
	twice := of(cons("b", api.Le, num(2)), in("a", num(2), num(1), num(2)), cons("b", api.Le, num(2)), has("a"))
	x := rows{{3, twice}, {0, nil}, {8, api.Pred{}}}.index(t)
	if p, is := x.Get(3); !is || !pred.Same(p, of(has("a"), in("a", num(1), num(2)), cons("b", api.Le, num(2)))) {
		t.Error(p, is)
	}
	for _, id := range []int{0, 8} {
		if p, is := x.Get(id); !is || len(p) != 0 {
			t.Error(id, p, is)
		}
	}
	for _, id := range []int{-1, 1, 2, 4, math.MaxInt} {
		if p, is := x.Get(id); is || len(p) != 0 {
			t.Error(id, p, is)
		}
	}
}

// TestIds holds that numbers rise, whatever the order in which they come.
func TestIds(t *testing.T) {
	ids := []int{0, 1, 2, 9, 10, 11, 100, 255, 256, 1 << 40, math.MaxInt}
	for seed := range int64(20) {
		var l rows
		for _, i := range rand.New(rand.NewSource(seed)).Perm(len(ids)) {
			l = append(l, row{ids[i], nil})
		}
		x := l.index(t)
		if got := x.Ids(); !slices.Equal(got, ids) {
			t.Fatal(got)
		}
		if got := x.Match(api.Event{}); !slices.Equal(got, ids) {
			t.Fatal(got)
		}
	}
}

// oddPreds answers predicates that may not be.
func oddPreds() []api.Pred {
	return []api.Pred{
		{{}}, {{Name: "a"}}, {{Name: "a", Op: 10}}, {has("")}, {has(strings.Repeat("a", 17))}, {has("a"), has("")}, {cons("a", api.Eq, api.Value{})},
		{cons("a", api.Prefix, num(1))}, {in("a")}, {cons("a", api.Has, num(0))}, {cons("a", api.Eq, word(strings.Repeat("x", 33)))},
		slices.Repeat(of(has("a")), 7), {in("a", slices.Repeat([]api.Value{num(1)}, 7)...)},
	}
}

func TestAddMalformed(t *testing.T) {
	x := three().index(t)
	for _, p := range oddPreds() {
		for _, id := range []int{-1, 0, 2, 5} {
			want := api.ErrMalformed
			if id < 0 {
				want = api.ErrArg
			}
			if err := x.Add(id, p); err != want {
				t.Errorf("Add(%d, %v): %d", id, p, err)
			}
		}
	}
	three().check(t, x)
	three().ask(t, x, with(attr("a", num(1)), attr("b", num(1))))
}

// TestAddErrors holds which of several errors is told, in an index that is full.
func TestAddErrors(t *testing.T) {
	var l rows
	for id := range Most {
		l = append(l, row{3 * id, of(cons("a", api.Ge, num(int64(id))))})
	}
	x := l.index(t)
	odd := of(has(""))
	for _, c := range []struct {
		id   int
		p    api.Pred
		want api.Errno
	}{
		{1, nil, api.ErrFull}, {math.MaxInt, of(has("a")), api.ErrFull}, {3 * Most, nil, api.ErrFull},
		{0, nil, api.ErrThere}, {3 * (Most - 1), of(has("a")), api.ErrThere},
		{1, odd, api.ErrMalformed}, {0, odd, api.ErrMalformed},
		{-1, odd, api.ErrArg}, {-1, nil, api.ErrArg}, {math.MinInt, nil, api.ErrArg}, {-3, of(has("a")), api.ErrArg},
	} {
		if err := x.Add(c.id, c.p); err != c.want {
			t.Errorf("Add(%d, %v): %d, not %d", c.id, c.p, err, c.want)
		}
	}
	l.check(t, x)
	l.ask(t, x, with(attr("a", num(100))))
}

// TestMost holds that there is room for just so many, whatever came and went ahead.
func TestMost(t *testing.T) {
	x := New()
	for id := range Most {
		if err := x.Add(id, nil); err != api.OK {
			t.Fatal(id, err)
		}
	}
	for id := range Most {
		if x.Add(Most+id, nil) != api.ErrFull || x.Remove(id) != api.OK || x.Remove(id) != api.ErrNone || x.Add(Most+id, of(has("a"))) != api.OK {
			t.Fatal(id)
		}
	}
	if l := x.Ids(); len(l) != Most || l[0] != Most || l[Most-1] != 2*Most-1 {
		t.Error(l)
	}
	e := with(attr("a", num(1)))
	if l, n := x.Match(e), x.Looks(e); len(l) != Most || n != Most {
		t.Error(l, n)
	}
	for id := range Most {
		if x.Remove(Most+id) != api.OK {
			t.Fatal(id)
		}
	}
	rows{}.check(t, x)
	rows{}.ask(t, x, e)
}

func TestRemoveErrors(t *testing.T) {
	x := three().index(t)
	for _, id := range []int{-1, -2, -5, 0, 1, 3, 4, 6, 256, math.MaxInt, math.MinInt} {
		if err := x.Remove(id); err != api.ErrNone {
			t.Error(id, err)
		}
	}
	three().check(t, x)
}

// TestAgain holds a number that is removed and added again, with another predicate and with the same one.
func TestAgain(t *testing.T) {
	x := three().index(t)
	e := with(attr("a", num(1)), attr("b", num(1)))
	if x.Remove(5) != api.OK || x.Remove(5) != api.ErrNone {
		t.Fatal("remove")
	}
	if p, is := x.Get(5); is || len(p) != 0 {
		t.Error(p, is)
	}
	l := three()[1:]
	l.check(t, x)
	l.ask(t, x, e)
	for _, p := range []api.Pred{of(has("b")), of(cons("a", api.Ge, num(1))), nil, of(has("c")), of(has("a"), cons("a", api.Ne, num(7)), has("b"))} {
		if err := x.Add(5, p); err != api.OK {
			t.Fatal(err)
		}
		more := append(slices.Clone(l), row{5, p})
		more.check(t, x)
		more.ask(t, x, e)
		more.ask(t, x, with(attr("b", num(0))))
		if x.Remove(5) != api.OK {
			t.Fatal("remove")
		}
		l.check(t, x)
		l.ask(t, x, e)
	}
}

// manyOfOne answers predicates with several constraints of one name, or with one that stands twice.
func manyOfOne() rows {
	return rows{
		{0, of(cons("a", api.Ge, num(1)), cons("a", api.Lt, num(5)))},
		{1, of(cons("a", api.Ge, num(1)), cons("a", api.Ge, num(1)))},
		{2, of(has("a"), has("a"), has("a"), has("a"), has("a"), has("a"))},
		{3, of(in("a", num(1), num(2)), in("a", num(2), num(1), num(1)), cons("b", api.Eq, word("x")))},
		{4, of(cons("a", api.Ne, num(1)), cons("a", api.Ne, num(2)), cons("a", api.Ne, num(3)), cons("a", api.Ne, num(4)), cons("a", api.Ne, num(5)), has("a"))},
		{5, of(cons("a", api.Eq, num(1)), cons("a", api.Eq, num(2)))},
		{6, of(cons("b", api.Prefix, word("x")), has("a"))},
		{7, of(has("b"), has("c"))},
		{8, of(has("a"), has("b"), has("c"))},
		{9, of(cons("A", api.Eq, num(1)))},
	}
}

func TestMatchManyOfOne(t *testing.T) {
	l := manyOfOne()
	x := l.index(t)
	for _, c := range []struct {
		e     api.Event
		ids   []int
		looks int
	}{
		{with(attr("a", num(1))), []int{0, 1, 2}, 15},
		{with(attr("a", num(0))), []int{2, 4}, 15},
		{with(attr("a", num(5))), []int{1, 2}, 15},
		{with(attr("a", num(9))), []int{1, 2, 4}, 15},
		{with(attr("a", word("1"))), []int{2}, 15},
		{with(attr("a", num(2)), attr("b", word("x"))), []int{0, 1, 2, 3, 6}, 19},
		{with(attr("b", word("x"))), nil, 4},
		{with(attr("b", word("x")), attr("c", truth(false))), []int{7}, 6},
		{with(attr("a", num(7)), attr("b", num(0)), attr("c", truth(false))), []int{1, 2, 4, 7, 8}, 21},
		{with(attr("A", num(1))), []int{9}, 1},
		{with(attr("d", num(1))), nil, 0},
		{api.Event{Key: "a"}, nil, 0},
		{api.Event{}, nil, 0},
	} {
		if got := x.Match(c.e); !slices.Equal(got, c.ids) {
			t.Errorf("Match(%v): %v, not %v", c.e, got, c.ids)
		}
		if got := x.Looks(c.e); got != c.looks {
			t.Errorf("Looks(%v): %d, not %d", c.e, got, c.looks)
		}
		l.ask(t, x, c.e)
	}
}

// TestMatchWithout holds that a predicate without constraints matches all, and is asked nothing.
func TestMatchWithout(t *testing.T) {
	x := rows{{0, nil}, {1, api.Pred{}}, {2, of(has("a"))}}.index(t)
	for _, e := range []api.Event{{}, {Key: "k"}, with(attr("b", num(0))), with(attr("", api.Value{})), {Key: strings.Repeat("k", 99)}} {
		if l, n := x.Match(e), x.Looks(e); !slices.Equal(l, []int{0, 1}) || n != 0 {
			t.Error(e, l, n)
		}
	}
	if l, n := x.Match(with(attr("a", num(0)))), x.Looks(with(attr("a", num(0)))); !slices.Equal(l, []int{0, 1, 2}) || n != 1 {
		t.Error(l, n)
	}
}

// TestMatchOddEvents holds events that may not be.
func TestMatchOddEvents(t *testing.T) {
	sixteen := strings.Repeat("a", 16)
	x := rows{
		{0, of(cons("a", api.Eq, num(1)))}, {1, of(cons("a", api.Eq, num(2)))}, {2, of(has("A b\xff"))}, {3, of(has(sixteen))},
		{4, of(cons("b", api.Ne, num(0)), has("a"))}, {5, of(cons("a", api.Eq, num(1)), cons("a", api.Le, num(2)))},
	}.index(t)
	many := with()
	for range 300 {
		many.Attrs = append(many.Attrs, attr("a", num(1)), attr("b", num(2)), attr("c", num(3)))
	}
	for _, c := range []struct {
		e     api.Event
		ids   []int
		looks int
	}{
		{with(attr("a", num(1)), attr("a", num(2))), []int{0, 5}, 5},
		{with(attr("a", num(2)), attr("a", num(1))), []int{1}, 5},
		{with(attr("b", num(2)), attr("a", num(2)), attr("b", num(0)), attr("a", num(1))), []int{1, 4}, 6},
		{with(attr("b", num(0)), attr("a", num(3)), attr("b", num(2)), attr("a", num(1))), nil, 6},
		{with(attr("a", num(1)), attr("a", num(1)), attr("a", num(1))), []int{0, 5}, 5},
		{with(attr("A b\xff", api.Value{})), []int{2}, 1},
		{with(attr(sixteen+"a", num(1)), attr("", num(1))), nil, 0},
		{with(attr(sixteen, api.Value{Kind: -4}), attr("a", api.Value{Num: 1})), []int{3}, 6},
		{with(attr("a", api.Value{Kind: 4, Num: 1}), attr("b", api.Value{Kind: 9})), nil, 6},
		{with(attr("b", word(strings.Repeat("x", 99))), attr("a", num(7))), nil, 6},
		{many, []int{0, 4, 5}, 6},
	} {
		if got := x.Match(c.e); !slices.Equal(got, c.ids) {
			t.Errorf("Match(%v): %v, not %v", c.e, got, c.ids)
		}
		if got := x.Looks(c.e); got != c.looks {
			t.Errorf("Looks(%v): %d, not %d", c.e, got, c.looks)
		}
	}
}

func oneOf[T any](r *rand.Rand, l ...T) T { return l[r.Intn(len(l))] }

func someValue(r *rand.Rand) api.Value {
	return oneOf(r, num(0), num(1), num(2), word(""), word("x"), word("xy"), truth(true), truth(false))
}

// somePred answers a predicate of few names and values, so that many match, and much stands twice.
func somePred(r *rand.Rand) api.Pred {
	var p api.Pred
	for range r.Intn(oneOf(r, 2, 4, 7)) {
		c := cons(oneOf(r, "a", "b", "c", "aa"), 1+r.Intn(9), api.Value{})
		switch c.Op {
		case api.Has:
		case api.In:
			for range 1 + r.Intn(6) {
				c.Set = append(c.Set, someValue(r))
			}
		case api.Prefix:
			c.Value = word(oneOf(r, "", "x", "xy"))
		default:
			c.Value = someValue(r)
		}
		p = append(p, c)
	}
	return p
}

// someEvent answers an event of few names and values; some have a name twice, and names in any order.
func someEvent(r *rand.Rand) api.Event {
	var e api.Event
	for range r.Intn(6) {
		e.Attrs = append(e.Attrs, attr(oneOf(r, "a", "b", "c", "aa", "d"), oneOf(r, someValue(r), api.Value{}, api.Value{Kind: 4})))
	}
	return e
}

// step adds or removes one, at random, and holds the answer against what is there.
func (l rows) step(t *testing.T, r *rand.Rand, x *Index) rows {
	id := r.Intn(40) - 2
	at := slices.IndexFunc(l, func(o row) bool { return o.id == id })
	if r.Intn(3) == 0 {
		want := api.OK
		if at < 0 {
			want = api.ErrNone
		}
		if err := x.Remove(id); err != want {
			t.Fatalf("Remove(%d): %d, not %d", id, err, want)
		}
		if at < 0 {
			return l
		}
		return slices.Delete(l, at, at+1)
	}
	p, want := somePred(r), api.OK
	if at >= 0 {
		want = api.ErrThere
	}
	if r.Intn(6) == 0 {
		p, want = oneOf(r, oddPreds()...), api.ErrMalformed
	}
	if id < 0 {
		want = api.ErrArg
	}
	if err := x.Add(id, p); err != want {
		t.Fatalf("Add(%d, %v): %d, not %d", id, p, err, want)
	}
	if want != api.OK {
		return l
	}
	return append(l, row{id, p})
}

func TestRandomSteps(t *testing.T) {
	told := 0
	for seed := range int64(60) {
		r := rand.New(rand.NewSource(seed))
		var l rows
		x := New()
		for range 80 {
			l = l.step(t, r, x)
			l.check(t, x)
			for range 4 {
				e := someEvent(r)
				l.ask(t, x, e)
				told += len(l.match(e))
			}
		}
	}
	if told < 10000 {
		t.Error("too few match:", told)
	}
}

// TestMoreChangeNothing holds P8.4: what matched is told as it was, with more predicates and with fewer ones.
func TestMoreChangeNothing(t *testing.T) {
	for seed := range int64(10) {
		r := rand.New(rand.NewSource(seed))
		x := New()
		var events []api.Event
		for range 12 {
			events = append(events, someEvent(r))
		}
		ahead := make([][]int, len(events))
		for id := range Most {
			p := somePred(r)
			if err := x.Add(id, p); err != api.OK {
				t.Fatal(err)
			}
			for i, e := range events {
				want := ahead[i]
				if pred.Matches(p, e) {
					want = append(want, id)
				}
				if ahead[i] = x.Match(e); !slices.Equal(ahead[i], want) {
					t.Fatalf("Match(%v): %v, not %v", e, ahead[i], want)
				}
			}
		}
		for _, id := range r.Perm(Most) {
			x.Remove(id)
			for i, e := range events {
				ahead[i] = slices.DeleteFunc(ahead[i], func(own int) bool { return own == id })
				if got := x.Match(e); !slices.Equal(got, ahead[i]) {
					t.Fatalf("Match(%v): %v, not %v", e, got, ahead[i])
				}
			}
		}
	}
}

// TestGivenIsNotKept holds R3: what is changed behind a call, by whom it came from, changes nothing.
func TestGivenIsNotKept(t *testing.T) {
	set := []api.Value{num(2), num(1)}
	p := of(cons("b", api.Ge, num(1)), api.Constraint{Name: "a", Op: api.In, Set: set})
	x := New()
	if err := x.Add(1, p); err != api.OK {
		t.Fatal(err)
	}
	if p[0].Name != "b" || p[1].Name != "a" || set[0] != num(2) || set[1] != num(1) {
		t.Error("Add changed what it was given:", p)
	}
	p[0], set[0], set[1] = has("c"), num(7), num(8)
	e := with(attr("b", num(1)), attr("a", num(2)))
	l := rows{{1, of(in("a", num(1), num(2)), cons("b", api.Ge, num(1)))}}
	l.check(t, x)
	l.ask(t, x, e)
	if e.Attrs[0] != attr("b", num(1)) || e.Attrs[1] != attr("a", num(2)) {
		t.Error("Match or Looks changed what it was given:", e)
	}
}

// TestAnsweredIsNew holds R3: what is done to an answer changes no other one.
func TestAnsweredIsNew(t *testing.T) {
	l := rows{{1, of(in("a", num(1), num(2)), has("b"))}, {2, nil}, {3, of(has("b"))}}
	x := l.index(t)
	e := with(attr("a", num(2)), attr("b", num(1)))
	p, _ := x.Get(1)
	p[0].Set[0], p[0].Set[1], p[1] = num(7), num(8), has("c")
	ids, matched := x.Ids(), x.Match(e)
	clear(ids)
	clear(matched)
	l.check(t, x)
	l.ask(t, x, e)
}
