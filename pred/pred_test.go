package pred

import (
	"math"
	"math/rand"
	"slices"
	"strings"
	"testing"

	"pneumatic/api"
	"pneumatic/value"
)

func num(n int64) api.Value   { return value.Number(n) }
func word(s string) api.Value { return value.Word(s) }
func truth(b bool) api.Value  { return value.Truth(b) }

func has(name string) api.Constraint { return api.Constraint{Name: name, Op: api.Has} }

func cons(name string, op int, v api.Value) api.Constraint {
	return api.Constraint{Name: name, Op: op, Value: v}
}

func in(name string, set ...api.Value) api.Constraint {
	return api.Constraint{Name: name, Op: api.In, Set: set}
}

func of(attrs ...api.Attr) api.Event { return api.Event{Attrs: attrs} }

func attr(name string, v api.Value) api.Attr { return api.Attr{Name: name, Value: v} }

// ops answers every Op, and some numbers that are none.
func ops() []int {
	l := []int{math.MinInt, -1, 0, 10, 11, 256 + api.Eq, math.MaxInt}
	for op := api.Has; op <= api.In; op++ {
		l = append(l, op)
	}
	return l
}

// oddValues answers values of every Kind, and such as may not be.
func oddValues() []api.Value {
	return []api.Value{
		num(-3), num(0), num(3), num(math.MinInt64), num(math.MaxInt64),
		word(""), word("x"), word("xy"), word("\x00\xff"), word(strings.Repeat("z", 32)),
		truth(false), truth(true),
		{}, {Num: 1}, {Str: "x"}, {Bool: true}, {Kind: 4}, {Kind: 4, Str: "x"}, {Kind: -1, Num: 3},
		{Kind: api.Int, Num: 3, Str: "x"}, {Kind: api.Int, Num: 3, Bool: true}, {Kind: api.Str, Num: 3, Str: "x"}, {Kind: api.Str, Str: "x", Bool: true},
		{Kind: api.Bool, Num: 1, Bool: true}, {Kind: api.Bool, Str: "x"},
		word(strings.Repeat("z", 33)),
	}
}

// oddSets answers Sets of none to 7 values, in and out of order, and such as may not be.
func oddSets() [][]api.Value {
	return [][]api.Value{
		nil, {},
		{num(3)}, {word("x")}, {truth(true)}, {num(3), word("x"), truth(false)}, {truth(false), word("x"), num(3)},
		{num(3), num(3)}, {num(6), num(5), num(4), num(3), num(2), num(1)}, {num(1), num(1), num(1), num(1), num(1), num(1)},
		{num(1), num(2), num(3), num(4), num(5), num(6), num(7)}, {num(1), num(1), num(1), num(1), num(1), num(1), num(1)},
		{{}}, {num(1), {}}, {{Kind: 4}, num(1)}, {word(strings.Repeat("z", 33))}, {num(1), {Kind: api.Int, Num: 2, Str: "x"}, num(3)},
	}
}

// allCons hands each mixture of the odd things to do.
func allCons(do func(api.Constraint)) {
	for _, name := range []string{"", "a", "A b\xff", strings.Repeat("a", 16), strings.Repeat("a", 17)} {
		for _, op := range ops() {
			for _, v := range oddValues() {
				for _, set := range oddSets() {
					do(api.Constraint{Name: name, Op: op, Value: v, Set: set})
				}
			}
		}
	}
}

func TestMayCons(t *testing.T) {
	six := []api.Value{num(6), num(5), word("x"), truth(true), num(5), num(5)}
	for _, c := range []api.Constraint{
		has("a"), has(strings.Repeat("a", 16)), has("A"), has(" "), has("\x00"), has("\xff="), has("é"), {Name: "a", Op: api.Has, Set: []api.Value{}},
		cons("a", api.Eq, num(1)), cons("a", api.Ne, word("")), cons("a", api.Lt, truth(false)), cons("a", api.Le, word("x")), cons("a", api.Gt, num(math.MinInt64)), cons("a", api.Ge, truth(true)),
		{Name: "a", Op: api.Eq, Value: num(1), Set: []api.Value{}},
		cons("a", api.Prefix, word("")), cons("a", api.Prefix, word("x")), cons("a", api.Prefix, word(strings.Repeat("\xff", 32))),
		in("a", num(1)), in("a", word("")), in("a", truth(true)), in("a", num(2), num(1), num(2)), in("a", six...),
	} {
		if !MayCons(c) {
			t.Errorf("%#v may be", c)
		}
	}
	for _, c := range []api.Constraint{
		{}, {Name: "a"}, cons("a", -1, num(1)), cons("a", 10, num(1)), cons("a", math.MaxInt, num(1)), {Name: "a", Op: 10, Set: []api.Value{num(1)}},
		has(""), has(strings.Repeat("a", 17)), has(strings.Repeat("é", 9)), cons("", api.Eq, num(1)), cons(strings.Repeat("a", 17), api.Prefix, word("x")), in("", num(1)), in(strings.Repeat("a", 17), num(1)),
		cons("a", api.Has, num(0)), cons("a", api.Has, num(1)), cons("a", api.Has, api.Value{Num: 1}), cons("a", api.Has, api.Value{Str: "x"}), cons("a", api.Has, api.Value{Bool: true}),
		{Name: "a", Op: api.Has, Set: []api.Value{num(1)}}, {Name: "a", Op: api.Has, Set: []api.Value{{}}},
		cons("a", api.Eq, api.Value{}), cons("a", api.Ne, api.Value{Kind: 4}), cons("a", api.Lt, word(strings.Repeat("x", 33))), cons("a", api.Le, api.Value{Kind: api.Int, Str: "x"}), cons("a", api.Gt, api.Value{Kind: api.Str, Num: 1}), cons("a", api.Ge, api.Value{Kind: api.Bool, Num: 1}),
		{Name: "a", Op: api.Eq, Value: num(1), Set: []api.Value{num(1)}}, {Name: "a", Op: api.Eq, Set: []api.Value{num(1)}}, {Name: "a", Op: api.Prefix, Value: word("x"), Set: []api.Value{word("x")}},
		cons("a", api.Prefix, num(1)), cons("a", api.Prefix, truth(true)), cons("a", api.Prefix, api.Value{}), cons("a", api.Prefix, word(strings.Repeat("x", 33))), cons("a", api.Prefix, api.Value{Kind: api.Str, Str: "x", Bool: true}),
		in("a"), {Name: "a", Op: api.In, Set: []api.Value{}}, in("a", append(six, num(1))...), in("a", api.Value{}), in("a", num(1), api.Value{Kind: 4}), in("a", num(1), word(strings.Repeat("x", 33))),
		{Name: "a", Op: api.In, Value: num(1), Set: []api.Value{num(1)}}, {Name: "a", Op: api.In, Value: api.Value{Str: "x"}, Set: []api.Value{num(1)}}, {Name: "a", Op: api.In, Value: api.Value{Bool: true}, Set: []api.Value{num(1)}}, cons("a", api.In, num(1)),
	} {
		if MayCons(c) {
			t.Errorf("%#v may not be", c)
		}
	}
}

// wanted tells whether c may be, by the words of the chapter: what its Op lets its Value and its Set be.
func wanted(c api.Constraint) bool {
	name := len(c.Name) > 0 && len(c.Name) < 17
	nothing := c.Value == api.Value{}
	odd := slices.ContainsFunc(c.Set, func(v api.Value) bool { return !value.May(v) })
	return name && map[int]bool{
		api.Has: nothing && len(c.Set) == 0,
		api.In:  nothing && len(c.Set) > 0 && len(c.Set) < 7 && !odd,
		api.Eq:  len(c.Set) == 0 && value.May(c.Value), api.Ne: len(c.Set) == 0 && value.May(c.Value),
		api.Lt: len(c.Set) == 0 && value.May(c.Value), api.Le: len(c.Set) == 0 && value.May(c.Value),
		api.Gt: len(c.Set) == 0 && value.May(c.Value), api.Ge: len(c.Set) == 0 && value.May(c.Value),
		api.Prefix: len(c.Set) == 0 && value.May(c.Value) && c.Value.Kind == api.Str,
	}[c.Op]
}

func TestMayConsOfAll(t *testing.T) {
	may := 0
	allCons(func(c api.Constraint) {
		want := wanted(c)
		if MayCons(c) != want || May(api.Pred{c}) != want || May(api.Pred{has("b"), c, has("c")}) != want {
			t.Fatalf("%#v: %v", c, !want)
		}
		if want {
			may++
		}
	})
	if may < 100 {
		t.Error("too few may be:", may)
	}
}

func TestMay(t *testing.T) {
	for n := range 20 {
		p := slices.Repeat(api.Pred{has("a")}, n)
		if May(p) != (n <= 6) {
			t.Errorf("%d constraints", n)
		}
		for i := range p {
			q := slices.Clone(p)
			q[i].Op = 0
			if May(q) {
				t.Errorf("constraint %d of %d may not be", i, n)
			}
		}
	}
	if !May(nil) || !May(api.Pred{}) {
		t.Error("none may be")
	}
	if May(make(api.Pred, 1<<16)) {
		t.Error("too many may not be")
	}
}

func TestHolds(t *testing.T) {
	for _, x := range []struct {
		op        int
		own       api.Value
		yes, none []api.Value
	}{
		{api.Eq, num(3), []api.Value{num(3)}, []api.Value{num(2), num(4), num(-3), word("3"), truth(true), {}}},
		{api.Ne, num(3), []api.Value{num(2), num(4)}, []api.Value{num(3), word("3"), truth(true), {}}},
		{api.Lt, num(3), []api.Value{num(2), num(math.MinInt64)}, []api.Value{num(3), num(4), word(""), truth(false), {}}},
		{api.Le, num(3), []api.Value{num(2), num(3)}, []api.Value{num(4), word(""), truth(false), {}}},
		{api.Gt, num(3), []api.Value{num(4), num(math.MaxInt64)}, []api.Value{num(3), num(2), word("x"), truth(true), {Kind: 4}}},
		{api.Ge, num(3), []api.Value{num(4), num(3)}, []api.Value{num(2), word("x"), truth(true), {Kind: 4}}},
		{api.Eq, word("b"), []api.Value{word("b")}, []api.Value{word("B"), word("a"), word("ba"), word(""), num(0), truth(true)}},
		{api.Ne, word("b"), []api.Value{word("B"), word("ba"), word("")}, []api.Value{word("b"), num(0), truth(true)}},
		{api.Lt, word("b"), []api.Value{word("a"), word("B"), word(""), word("azz")}, []api.Value{word("b"), word("ba"), word("\xff"), num(0), truth(false)}},
		{api.Le, word("b"), []api.Value{word("a"), word("b")}, []api.Value{word("b\x00"), word("c"), num(0), truth(false)}},
		{api.Gt, word("b"), []api.Value{word("b\x00"), word("\x80")}, []api.Value{word("b"), word("a"), num(9), truth(true)}},
		{api.Ge, word("b"), []api.Value{word("b"), word("ba")}, []api.Value{word("azz"), num(9), truth(true)}},
		{api.Eq, truth(true), []api.Value{truth(true)}, []api.Value{truth(false), num(1), word("true")}},
		{api.Ne, truth(true), []api.Value{truth(false)}, []api.Value{truth(true), num(1), word("true"), {}}},
		{api.Lt, truth(true), []api.Value{truth(false)}, []api.Value{truth(true), num(0)}},
		{api.Lt, truth(false), nil, []api.Value{truth(false), truth(true), num(0)}},
		{api.Le, truth(false), []api.Value{truth(false)}, []api.Value{truth(true), num(0)}},
		{api.Gt, truth(false), []api.Value{truth(true)}, []api.Value{truth(false), {Kind: 4}}},
		{api.Gt, truth(true), nil, []api.Value{truth(false), truth(true)}},
		{api.Ge, truth(false), []api.Value{truth(false), truth(true)}, []api.Value{num(0), word("x")}},
		{api.Prefix, word("x"), []api.Value{word("x"), word("xy"), word("x\xff")}, []api.Value{word(""), word("X"), word("yx"), num(7), truth(true), {}, {Kind: 4, Str: "x"}, {Kind: api.Int, Str: "xy"}}},
		{api.Prefix, word(""), []api.Value{word(""), word("x")}, []api.Value{num(0), truth(false), {}}},
		{api.Prefix, num(1), nil, []api.Value{num(1), word("1"), word(""), {Kind: api.Int, Str: "x"}}},
		{api.Has, api.Value{}, []api.Value{num(0), word(""), truth(false), {}, {Kind: -5}}, nil},
	} {
		c := cons("a", x.op, x.own)
		for _, v := range x.yes {
			if !Holds(c, v) {
				t.Errorf("%#v holds of %#v", c, v)
			}
		}
		for _, v := range x.none {
			if Holds(c, v) {
				t.Errorf("%#v does not hold of %#v", c, v)
			}
		}
	}
}

func TestHoldsOfSets(t *testing.T) {
	c := in("a", num(1), word("z"), truth(false), num(9))
	for _, v := range []api.Value{num(1), num(9), word("z"), truth(false)} {
		if !Holds(c, v) {
			t.Errorf("%#v is in", v)
		}
	}
	for _, v := range []api.Value{num(0), num(2), word(""), word("zz"), word("1"), truth(true), {}, {Kind: 4}} {
		if Holds(c, v) {
			t.Errorf("%#v is not in", v)
		}
	}
	if Holds(in("a"), num(0)) || Holds(in("a"), api.Value{}) || Holds(cons("a", api.In, num(0)), num(0)) {
		t.Error("nothing is in a Set of none, whatever the Value")
	}
	nine := []api.Value{num(1), num(2), num(3), num(4), num(5), num(6), num(7), {Kind: 8}, num(9)}
	if !Holds(in("a", nine...), num(9)) || !Holds(in("a", nine...), api.Value{Kind: 8, Num: 5}) {
		t.Error("a Set that is too long, and has what may not be, is asked all the same")
	}
}

// holds tells, by the words of the chapter alone, whether c holds of v.
func holds(c api.Constraint, v api.Value) bool {
	switch {
	case c.Op == api.Has:
		return true
	case c.Op == api.In:
		for _, own := range c.Set {
			if value.Compare(own, v) == 0 {
				return true
			}
		}
		return false
	case c.Value.Kind != v.Kind || c.Op < api.Eq || c.Op > api.In:
		return false
	case c.Op == api.Prefix:
		return v.Kind == api.Str && len(c.Value.Str) <= len(v.Str) && v.Str[:len(c.Value.Str)] == c.Value.Str
	}
	orders := [][]int{{0}, {-1, 1}, {-1}, {-1, 0}, {1}, {0, 1}}
	return slices.Contains(orders[c.Op-api.Eq], value.Compare(v, c.Value))
}

func TestHoldsOfAny(t *testing.T) {
	yes := 0
	for _, op := range ops() {
		for _, own := range oddValues() {
			for _, set := range oddSets() {
				c := api.Constraint{Name: "", Op: op, Value: own, Set: set}
				for _, v := range oddValues() {
					if Holds(c, v) != holds(c, v) {
						t.Fatalf("%#v, %#v: %v", c, v, Holds(c, v))
					}
					if holds(c, v) {
						yes++
					}
				}
			}
		}
	}
	if yes < 1000 {
		t.Error("too few hold:", yes)
	}
}

func TestMatches(t *testing.T) {
	between := api.Pred{cons("a", api.Ge, num(5)), cons("a", api.Lt, num(9))}
	begins := api.Pred{cons("b", api.Prefix, word("x"))}
	some := api.Pred{in("c", num(1), word("z"))}
	for _, x := range []struct {
		p    api.Pred
		e    api.Event
		want bool
	}{
		{between, of(attr("a", num(4))), false},
		{between, of(attr("a", num(5))), true},
		{between, of(attr("a", num(8))), true},
		{between, of(attr("a", num(9))), false},
		{between, of(attr("a", word("5"))), false},
		{between, of(), false},
		{between, of(attr("b", num(5))), false},
		{between, of(attr("A", num(5))), false},
		{begins, of(attr("b", word("xy"))), true},
		{begins, of(attr("b", num(7))), false},
		{some, of(attr("c", word("z"))), true},
		{some, of(attr("c", num(1))), true},
		{some, of(attr("c", num(2))), false},
		{api.Pred{cons("c", api.Ne, num(3))}, of(attr("c", truth(true))), false},
		{api.Pred{cons("c", api.Ne, num(3))}, of(attr("c", num(4))), true},
		{api.Pred{cons("c", api.Ne, num(3))}, of(attr("d", num(4))), false},
		{nil, of(), true},
		{api.Pred{}, of(attr("a", num(1))), true},
		{nil, api.Event{Key: strings.Repeat("k", 99), Attrs: []api.Attr{{}, {}}}, true},
		{api.Pred{has("a")}, of(attr("a", truth(false))), true},
		{api.Pred{has("a")}, of(attr("a", api.Value{})), true},
		{api.Pred{has("a")}, api.Event{Key: "a"}, false},
		{api.Pred{has("a"), has("b")}, of(attr("a", num(1)), attr("b", num(1))), true},
		{api.Pred{has("a"), has("b")}, of(attr("a", num(1)), attr("c", num(1))), false},
		{api.Pred{has("a"), has("b")}, of(attr("b", num(1))), false},
		{api.Pred{has("")}, of(attr("", num(1))), true},
		{api.Pred{has("")}, of(attr("a", num(1))), false},
		{api.Pred{{Name: "a", Op: 0}}, of(attr("a", num(1))), false},
		{api.Pred{{Name: "a", Op: 10}}, of(attr("a", num(1))), false},
	} {
		if Matches(x.p, x.e) != x.want {
			t.Errorf("%#v, %#v: %v", x.p, x.e, !x.want)
		}
	}
}

func TestMatchesOfSeveralOfOneName(t *testing.T) {
	e := of(attr("b", num(0)), attr("a", num(1)), attr("a", num(2)), attr("", num(3)), attr("a", word("x")), attr("", num(4)))
	for n := range int64(6) {
		if Matches(api.Pred{cons("a", api.Eq, num(n))}, e) != (n == 1) || Matches(api.Pred{cons("", api.Eq, num(n))}, e) != (n == 3) {
			t.Errorf("the first one counts, not %d", n)
		}
	}
	if Matches(api.Pred{cons("a", api.Prefix, word("x"))}, e) || Matches(api.Pred{cons("a", api.Eq, num(1)), cons("a", api.Eq, num(2))}, e) {
		t.Error("later ones do not count")
	}
}

func TestMatchesOfMany(t *testing.T) {
	p := slices.Repeat(api.Pred{has("a")}, 1000)
	e := of(attr("a", num(1)))
	if !Matches(p, e) {
		t.Error("predicates that are too long are asked all the same")
	}
	p[999] = has("b")
	if Matches(p, e) {
		t.Error("the last one counts")
	}
}

func TestNormal(t *testing.T) {
	for _, x := range []struct{ p, want api.Pred }{
		{nil, nil},
		{api.Pred{}, nil},
		{api.Pred{has("b"), in("a", num(2), num(1), num(2)), has("b")}, api.Pred{in("a", num(1), num(2)), has("b")}},
		{api.Pred{has("b"), has("a")}, api.Pred{has("a"), has("b")}},
		{api.Pred{has("a"), has("A"), has("aa"), has("\xff"), has("B"), has("\x00")}, api.Pred{has("\x00"), has("A"), has("B"), has("a"), has("aa"), has("\xff")}},
		{api.Pred{in("a", num(1)), cons("a", api.Prefix, word("")), cons("a", api.Ge, num(1)), cons("a", api.Le, num(1)), cons("a", api.Eq, num(1)), has("a")}, api.Pred{has("a"), cons("a", api.Eq, num(1)), cons("a", api.Le, num(1)), cons("a", api.Ge, num(1)), cons("a", api.Prefix, word("")), in("a", num(1))}},
		{api.Pred{cons("a", api.Gt, num(1)), cons("a", api.Ne, num(1)), cons("a", api.Lt, num(1)), cons("a", api.Ne, num(1))}, api.Pred{cons("a", api.Ne, num(1)), cons("a", api.Lt, num(1)), cons("a", api.Gt, num(1))}},
		{api.Pred{cons("a", api.Ne, truth(true)), cons("a", api.Ne, word("x")), cons("a", api.Ne, num(10)), cons("a", api.Ne, truth(false)), cons("a", api.Ne, num(9)), cons("a", api.Ne, word(""))}, api.Pred{cons("a", api.Ne, num(9)), cons("a", api.Ne, num(10)), cons("a", api.Ne, word("")), cons("a", api.Ne, word("x")), cons("a", api.Ne, truth(false)), cons("a", api.Ne, truth(true))}},
		{api.Pred{in("a", truth(true), word("x"), num(3), truth(false), word("w"), num(-3))}, api.Pred{in("a", num(-3), num(3), word("w"), word("x"), truth(false), truth(true))}},
		{api.Pred{in("a", num(1), num(1), num(1), num(1), num(1), num(1))}, api.Pred{in("a", num(1))}},
		{api.Pred{in("a", num(2), num(1)), in("a", num(1), num(2)), in("a", num(1), num(2), num(1))}, api.Pred{in("a", num(1), num(2))}},
		{api.Pred{in("a", num(2)), in("a", num(3), num(1)), in("a", num(1)), in("a", num(1), num(2), num(3))}, api.Pred{in("a", num(1)), in("a", num(1), num(2), num(3)), in("a", num(1), num(3)), in("a", num(2))}},
		{slices.Repeat(api.Pred{has("a")}, 6), api.Pred{has("a")}},
		{api.Pred{{Name: "a", Op: api.Has, Set: []api.Value{}}, has("a")}, api.Pred{has("a")}},
		{api.Pred{cons("a", api.Eq, num(1)), cons("b", api.Eq, num(1)), cons("a", api.Eq, word("1"))}, api.Pred{cons("a", api.Eq, num(1)), cons("a", api.Eq, word("1")), cons("b", api.Eq, num(1))}},
	} {
		q, err := Normal(x.p)
		if err != api.OK || !same(q, x.want) {
			t.Errorf("%v: %v, %d, not %v", x.p, q, err, x.want)
		}
	}
}

// same tells whether p and q are the same as they stand, field by field.
func same(p, q api.Pred) bool {
	return slices.EqualFunc(p, q, func(a, b api.Constraint) bool {
		return a.Name == b.Name && a.Op == b.Op && a.Value == b.Value && slices.Equal(a.Set, b.Set)
	})
}

func TestNormalOfWhatMayNotBe(t *testing.T) {
	for _, p := range []api.Pred{
		slices.Repeat(api.Pred{has("a")}, 7), // though its constraints, each once, are few
		{in("a", num(1), num(1), num(1), num(1), num(1), num(1), num(1))},
		{in("a")}, {has("")}, {has(strings.Repeat("a", 17))}, {{}}, {has("a"), {Name: "a", Op: 10}}, {cons("a", api.Prefix, num(1))}, {cons("a", api.Eq, api.Value{})},
		make(api.Pred, 1<<16),
	} {
		if q, err := Normal(p); len(q) != 0 || err != api.ErrMalformed {
			t.Errorf("%.200v: %v, %d", p, q, err)
		}
	}
	allCons(func(c api.Constraint) {
		q, err := Normal(api.Pred{has("z"), c})
		if ok := wanted(c); ok != (err == api.OK) || !ok && (err != api.ErrMalformed || len(q) != 0) {
			t.Fatalf("%#v: %v, %d", c, q, err)
		}
	})
}

func TestNormalLivesApart(t *testing.T) {
	set := []api.Value{num(1), num(2), num(3), num(4)}
	given := func() api.Pred { return api.Pred{in("a", set[:2]...), in("b", set[:2]...), has("c")} }
	p := given()
	q, _ := Normal(p)
	if !same(p, given()) {
		t.Errorf("the predicate was changed: %v", p)
	}
	q[0].Set = append(q[0].Set, num(9))
	q[0].Set[0], q[2].Name = num(8), "x"
	if q[1].Set[0] != num(1) || len(q[1].Set) != 2 {
		t.Errorf("Sets of one answer share memory: %v", q)
	}
	q = append(q, has("y"))
	if !same(p, given()) || !slices.Equal(set, []api.Value{num(1), num(2), num(3), num(4)}) {
		t.Errorf("the predicate changed with its normal form: %v, %v", p, set)
	}
	q, _ = Normal(p)
	set[0], p[2].Name = num(7), "y"
	if !same(q, api.Pred{in("a", num(1), num(2)), in("b", num(1), num(2)), has("c")}) {
		t.Errorf("the normal form changed with the predicate: %v", q)
	}
	p = api.Pred{has("b"), in("a", num(2), num(1), num(2)), has("b")}
	Normal(p)
	if !same(p, api.Pred{has("b"), in("a", num(2), num(1), num(2)), has("b")}) {
		t.Errorf("the predicate was put in order: %v", p)
	}
}

func TestNormalOfWhatIsNormalLivesApart(t *testing.T) {
	for n := 1; n <= 6; n++ {
		var set []api.Value
		for i := range n {
			set = append(set, num(int64(i)))
		}
		p := api.Pred{in("a", set...)}
		q, _ := Normal(p)
		for i := range set {
			set[i] = num(int64(-i - 9))
			if q[0].Set[i] != num(int64(i)) {
				t.Errorf("the Set of %d values is shared", n)
			}
		}
		if p[0].Name = "b"; q[0].Name != "a" {
			t.Error("the constraints are shared")
		}
	}
}

func TestSame(t *testing.T) {
	base := api.Constraint{Name: "a", Op: 3, Value: api.Value{Kind: 4, Num: 1, Str: "s"}, Set: []api.Value{{Kind: 4, Num: 2}, num(3)}}
	for i, change := range []func(*api.Constraint){
		func(c *api.Constraint) { c.Name = "A" },
		func(c *api.Constraint) { c.Op = 4 },
		func(c *api.Constraint) { c.Value.Kind = 5 },
		func(c *api.Constraint) { c.Value.Num = 2 },
		func(c *api.Constraint) { c.Value.Str = "S" },
		func(c *api.Constraint) { c.Value.Bool = true },
		func(c *api.Constraint) { c.Set = nil },
		func(c *api.Constraint) { c.Set = c.Set[:1] },
		func(c *api.Constraint) { c.Set = append(c.Set, num(3)) },
		func(c *api.Constraint) { c.Set[0], c.Set[1] = c.Set[1], c.Set[0] },
		func(c *api.Constraint) { c.Set[0].Num = 3 },
		func(c *api.Constraint) { c.Set[1].Bool = true },
	} {
		other := base
		other.Set = slices.Clone(base.Set)
		p, q := api.Pred{has("x"), base, has("y")}, api.Pred{has("x"), other, has("y")}
		if !Same(p, q) || Compare(p, q) != 0 {
			t.Fatalf("%v, %v are the same", p, q)
		}
		change(&q[1])
		if Same(p, q) || Same(q, p) || Compare(p, q) == 0 || Compare(p, q) != -Compare(q, p) {
			t.Errorf("change %d is not seen", i)
		}
	}
	if !Same(nil, api.Pred{}) || !Same(api.Pred{has("a")}, api.Pred{{Name: "a", Op: api.Has, Set: []api.Value{}}}) {
		t.Error("nil and empty lists are one")
	}
	for _, x := range [][2]api.Pred{
		{nil, {has("a")}},
		{{has("a")}, {has("a"), has("a")}},
		{{has("a"), has("b")}, {has("b"), has("a")}},
		{{in("a", num(1), num(2))}, {in("a", num(2), num(1))}},
		{{in("a", num(1))}, {in("a", num(1), num(1))}},
	} {
		if Same(x[0], x[1]) || Same(x[1], x[0]) {
			t.Errorf("%v, %v are not the same as they stand", x[0], x[1])
		}
	}
}

// ladder answers predicates, each ahead of all behind it, laid out by hand.
func ladder() []api.Pred {
	return []api.Pred{
		nil,
		{{}},
		{{}, {}},
		{has("")},
		{has("A")},
		{{Name: "a", Op: math.MinInt}},
		{{Name: "a", Op: -1, Value: num(5)}},
		{{Name: "a"}},
		{has("a")},
		{has("a"), has("\x00")},
		{has("a"), has("a")},
		{has("a"), has("a"), has("a")},
		{has("a"), has("z")},
		{has("a"), in("z", num(1))},
		{{Name: "a", Op: api.Has, Set: []api.Value{{}}}},
		{{Name: "a", Op: api.Has, Value: api.Value{Num: 1}}},
		{cons("a", api.Eq, api.Value{Kind: -2, Num: 9})},
		{cons("a", api.Eq, api.Value{Num: -1, Str: "z", Bool: true})},
		{cons("a", api.Eq, api.Value{})},
		{cons("a", api.Eq, api.Value{Bool: true})},
		{cons("a", api.Eq, api.Value{Str: "x"})},
		{cons("a", api.Eq, api.Value{Str: "x", Bool: true})},
		{cons("a", api.Eq, api.Value{Num: 1})},
		{cons("a", api.Eq, num(-1))},
		{cons("a", api.Eq, num(9))},
		{cons("a", api.Eq, api.Value{Kind: api.Int, Num: 9, Bool: true})},
		{cons("a", api.Eq, api.Value{Kind: api.Int, Num: 9, Str: "a"})},
		{cons("a", api.Eq, num(10))},
		{cons("a", api.Eq, word(""))},
		{cons("a", api.Eq, api.Value{Kind: api.Str, Num: -1, Str: "B"})},
		{cons("a", api.Eq, word("B"))},
		{cons("a", api.Eq, api.Value{Kind: api.Str, Str: "B", Bool: true})},
		{cons("a", api.Eq, api.Value{Kind: api.Str, Num: 1, Str: "B"})},
		{cons("a", api.Eq, word("a"))},
		{cons("a", api.Eq, word("ab"))},
		{cons("a", api.Eq, word("\xff"))},
		{cons("a", api.Eq, api.Value{Kind: api.Bool, Num: -1})},
		{cons("a", api.Eq, truth(false))},
		{cons("a", api.Eq, truth(false)), has("b")},
		{cons("a", api.Eq, api.Value{Kind: api.Bool, Str: "a"})},
		{cons("a", api.Eq, api.Value{Kind: api.Bool, Num: 1})},
		{cons("a", api.Eq, truth(true))},
		{cons("a", api.Eq, api.Value{Kind: 4})},
		{cons("a", api.Ne, num(1))},
		{cons("a", api.Prefix, word("x"))},
		{in("a")},
		{in("a", api.Value{})},
		{in("a", api.Value{Num: 1})},
		{in("a", num(1))},
		{in("a", num(1)), has("b")},
		{in("a", num(1), num(1))},
		{in("a", num(1), num(2))},
		{in("a", num(1), num(2), num(0))},
		{in("a", num(1), num(3))},
		{in("a", num(1), word("a"))},
		{in("a", num(2))},
		{in("a", word("a"), num(1))},
		{in("a", truth(false))},
		{in("a", truth(true))},
		{in("a", api.Value{Kind: 4})},
		{{Name: "a", Op: api.In, Value: num(1)}},
		{{Name: "a", Op: math.MaxInt}},
		{{Name: "a\x00", Op: math.MinInt}},
		{has("aa")},
		{has("b")},
		{has(strings.Repeat("b", 40))},
		{has("\xff")},
	}
}

func TestCompare(t *testing.T) {
	l := ladder()
	for i, p := range l {
		for j, q := range l {
			want := 0
			switch {
			case i < j:
				want = -1
			case i > j:
				want = 1
			}
			if got := Compare(p, q); got != want || Same(p, q) != (want == 0) {
				t.Errorf("%v, %v: %d, not %d", p, q, got, want)
			}
		}
	}
}

// dice makes predicates of a few names and values, so that many are near each other.
type dice struct{ *rand.Rand }

func (d dice) value() api.Value {
	return []api.Value{num(0), num(1), num(2), num(3), word(""), word("x"), word("xy"), truth(false), truth(true)}[d.Intn(9)]
}

func (d dice) cons() api.Constraint {
	c := api.Constraint{Name: []string{"a", "b", "c"}[d.Intn(3)], Op: api.Has + d.Intn(9)}
	switch {
	case c.Op == api.In:
		for range 1 + d.Intn(3) {
			c.Set = append(c.Set, d.value())
		}
	case c.Op == api.Prefix:
		c.Value = word([]string{"", "x", "xy"}[d.Intn(3)])
	case c.Op != api.Has:
		c.Value = d.value()
	}
	return c
}

// pred answers a predicate of at most n constraints.
func (d dice) pred(n int) api.Pred {
	var p api.Pred
	for range d.Intn(n + 1) {
		p = append(p, d.cons())
	}
	return p
}

func (d dice) event() api.Event {
	var e api.Event
	for _, name := range []string{"a", "b", "c"} {
		if d.Intn(4) > 0 {
			e.Attrs = append(e.Attrs, attr(name, d.value()))
		}
	}
	return e
}

func newDice(seed int64) dice { return dice{rand.New(rand.NewSource(seed))} }

func TestMatchesOfAny(t *testing.T) {
	d, yes := newDice(1), 0
	for range 20000 {
		p, e := d.pred(4), d.event()
		want := true
		for _, c := range p {
			i := slices.IndexFunc(e.Attrs, func(a api.Attr) bool { return a.Name == c.Name })
			want = want && i >= 0 && holds(c, e.Attrs[i].Value)
		}
		if Matches(p, e) != want {
			t.Fatalf("%v, %v: %v", p, e, !want)
		}
		if want && len(p) > 0 {
			yes++
		}
	}
	if yes < 1000 {
		t.Error("too few match:", yes)
	}
}

func TestNormalMatchesTheSame(t *testing.T) {
	d := newDice(2)
	for range 3000 {
		p := d.pred(6)
		q, err := Normal(p)
		if err != api.OK || !May(q) {
			t.Fatalf("%v: %v, %d", p, q, err)
		}
		for range 30 {
			if e := d.event(); Matches(p, e) != Matches(q, e) {
				t.Fatalf("%v, %v: not the same of %v", p, q, e)
			}
		}
		if again, err := Normal(q); err != api.OK || !same(again, q) {
			t.Fatalf("%v, of %v: %v, %d", q, p, again, err)
		}
	}
}

// TestNormalIsInOrder holds normal forms against the words: rising constraints, rising Sets, and nothing but what was there.
func TestNormalIsInOrder(t *testing.T) {
	d := newDice(3)
	for range 5000 {
		p := d.pred(6)
		q, _ := Normal(p)
		for i, c := range q {
			if i > 0 && Compare(q[i-1:i], q[i:i+1]) != -1 {
				t.Fatalf("%v, of %v: constraint %d", q, p, i)
			}
			for j := 1; j < len(c.Set); j++ {
				if value.Compare(c.Set[j-1], c.Set[j]) != -1 {
					t.Fatalf("%v, of %v: Set of constraint %d", q, p, i)
				}
			}
			if !slices.ContainsFunc(p, func(b api.Constraint) bool { return alike(b, c) }) {
				t.Fatalf("%v, of %v: constraint %d is new", q, p, i)
			}
		}
		for i, b := range p {
			if !slices.ContainsFunc(q, func(c api.Constraint) bool { return alike(b, c) }) {
				t.Fatalf("%v, of %v: constraint %d is gone", q, p, i)
			}
		}
	}
}

// alike tells whether two constraints differ at most in the order of their Sets, and in what stands twice there.
func alike(a, b api.Constraint) bool {
	within := func(l, m []api.Value) bool {
		return !slices.ContainsFunc(l, func(v api.Value) bool { return !slices.Contains(m, v) })
	}
	return a.Name == b.Name && a.Op == b.Op && a.Value == b.Value && within(a.Set, b.Set) && within(b.Set, a.Set)
}

// mixed answers p in another order, with some constraints, and some values of Sets, twice.
func (d dice) mixed(p api.Pred) api.Pred {
	q := slices.Clone(p)
	for len(p) > 0 && len(q) < 6 && d.Intn(3) > 0 {
		q = append(q, p[d.Intn(len(p))])
	}
	d.Shuffle(len(q), func(i, j int) { q[i], q[j] = q[j], q[i] })
	for i := range q {
		set := slices.Clone(q[i].Set)
		for len(set) > 0 && len(set) < 6 && d.Intn(3) > 0 {
			set = append(set, set[d.Intn(len(set))])
		}
		d.Shuffle(len(set), func(i, j int) { set[i], set[j] = set[j], set[i] })
		q[i].Set = set
	}
	return q
}

func TestOneNormalForm(t *testing.T) {
	d, unlike := newDice(4), 0
	for range 5000 {
		p := d.pred(5)
		q := d.mixed(p)
		one, err := Normal(p)
		other, fault := Normal(q)
		if err != api.OK || fault != api.OK || !same(one, other) {
			t.Fatalf("%v, %v: %v, %d; %v, %d", p, q, one, err, other, fault)
		}
		if !same(p, q) {
			unlike++
		}
		if r := d.pred(5); len(p) > 0 {
			if rest, _ := Normal(r); same(one, rest) != allAlike(p, r) {
				t.Fatalf("%v, %v: %v, %v", p, r, one, rest)
			}
		}
	}
	if unlike < 1000 {
		t.Error("too few were unlike:", unlike)
	}
}

// allAlike tells whether each constraint of one has its like in the other one.
func allAlike(p, q api.Pred) bool {
	within := func(p, q api.Pred) bool {
		return !slices.ContainsFunc(p, func(a api.Constraint) bool {
			return !slices.ContainsFunc(q, func(b api.Constraint) bool { return alike(a, b) })
		})
	}
	return within(p, q) && within(q, p)
}

func TestOrderIsOne(t *testing.T) {
	d := newDice(5)
	l := ladder()
	for range 60 {
		l = append(l, d.pred(3))
	}
	for _, a := range l {
		for _, b := range l {
			ab := Compare(a, b)
			if ab != -Compare(b, a) || (ab == 0) != same(a, b) || Same(a, b) != same(a, b) {
				t.Fatalf("%v, %v: %d, and back %d", a, b, ab, Compare(b, a))
			}
			for _, c := range l {
				if bc, ac := Compare(b, c), Compare(a, c); ab <= 0 && bc <= 0 && (ac > 0 || (ac == 0) != (ab == 0 && bc == 0)) {
					t.Fatalf("%v, %v, %v: %d, %d, %d", a, b, c, ab, bc, ac)
				}
			}
		}
	}
}

func TestMoreConstraintsMatchNoMore(t *testing.T) {
	d, both := newDice(6), 0
	for range 100000 {
		p, q, e := d.pred(3), d.pred(3), d.event()
		together := Matches(slices.Concat(p, q), e)
		if together != (Matches(p, e) && Matches(q, e)) {
			t.Fatalf("%v and %v, %v: %v", p, q, e, together)
		}
		for i := range p {
			less := slices.Delete(slices.Clone(p), i, i+1)
			if Matches(p, e) && !Matches(less, e) {
				t.Fatalf("%v matches %v, and %v does not", p, e, less)
			}
		}
		if together && len(p) > 0 && len(q) > 0 {
			both++
		}
	}
	if both < 300 {
		t.Error("too few matched both:", both)
	}
}
