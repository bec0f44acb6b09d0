package overlap

import (
	"fmt"
	"math"
	"math/rand"
	"slices"
	"strings"
	"testing"

	"pneumatic/api"
	"pneumatic/cover"
	"pneumatic/event"
	"pneumatic/pred"
	"pneumatic/value"
)

const (
	least    = math.MinInt64
	greatest = math.MaxInt64
)

func num(n int64) api.Value   { return value.Number(n) }
func word(s string) api.Value { return value.Word(s) }
func truth(b bool) api.Value  { return value.Truth(b) }

func has(name string) api.Constraint { return api.Constraint{Name: name, Op: api.Has} }

func cons(name string, op int, v api.Value) api.Constraint {
	return api.Constraint{Name: name, Op: op, Value: v}
}

func in(name string, set ...api.Value) api.Constraint {
	return api.Constraint{Name: name, Op: api.In, Set: set}
}

func of(l ...api.Constraint) api.Pred { return l }

// each answers a constraint of each of these names.
func each(op int, v api.Value, names ...string) api.Pred {
	var p api.Pred
	for _, name := range names {
		p = append(p, cons(name, op, v))
	}
	return p
}

// told answers the attributes of e, of any texts and as many as there are; what an example may not have is told, too.
func told(e api.Event) string {
	var l []string
	if e.Key != "" {
		l = append(l, "key "+e.Key)
	}
	for _, a := range e.Attrs {
		switch v := a.Value; v {
		case num(v.Num):
			l = append(l, fmt.Sprintf("%s=%d", a.Name, v.Num))
		case word(v.Str):
			l = append(l, fmt.Sprintf("%s=%q", a.Name, v.Str))
		case truth(v.Bool):
			l = append(l, fmt.Sprintf("%s=%v", a.Name, v.Bool))
		default:
			l = append(l, fmt.Sprintf("%s=%#v", a.Name, v))
		}
	}
	return strings.Join(l, " ")
}

// pair is two predicates, and what is told of them: their example, or of which name they ask for nothing.
type pair struct {
	p, q    api.Pred
	example string
	apart   string
}

func a(op int, v api.Value) api.Constraint { return cons("a", op, v) }
func s(op int, v string) api.Constraint    { return cons("s", op, word(v)) }

// nothing answers a predicate that matches nothing by itself.
func nothing(name string) api.Pred {
	return of(cons(name, api.Eq, num(1)), cons(name, api.Eq, num(2)))
}

// pairsOfNames answers pairs that are told apart by the names that they have.
func pairsOfNames() []pair {
	sixteen := strings.Repeat("a", 16)
	return []pair{
		{of(a(api.Eq, num(1))), of(cons("b", api.Eq, word("x"))), `a=1 b="x"`, ""},
		{of(a(api.Gt, num(5))), of(cons("b", api.Prefix, word("x"))), `a=6 b="x"`, ""},
		{of(a(api.Gt, num(5)), has("b")), of(cons("b", api.Eq, num(1)), a(api.Lt, num(3))), "", "a"},
		{nil, nil, "", ""},
		{nil, api.Pred{}, "", ""},
		{nil, of(has("a")), "a=-9223372036854775808", ""},
		{nil, of(a(api.Gt, num(5)), cons("A", api.Eq, truth(true))), "A=true a=6", ""},
		{nil, nothing("a"), "", "a"},
		{nothing("a"), nothing("a"), "", "a"},
		{nothing("c"), nothing("b"), "", "b"},
		{nothing("a"), of(has("b")), "", "a"},
		{nothing("b"), of(has("a"), has("c")), "", "b"},
		{append(nothing("b"), has("a")), of(has("a")), "", "b"},
		{append(nothing("b"), a(api.Eq, num(1))), of(a(api.Eq, num(2))), "", "a"},
		{append(nothing("a"), cons("b", api.Eq, num(1))), of(cons("b", api.Eq, num(2))), "", "a"},
		{of(cons("b", api.Eq, num(2))), of(cons("c", api.Eq, num(3)), a(api.Eq, num(1))), "a=1 b=2 c=3", ""},
		{of(cons("c", api.Eq, num(1)), has("a"), cons("b", api.Eq, num(1))), of(cons("c", api.Eq, num(2)), cons("b", api.Eq, num(2))), "", "b"},
		{each(api.Eq, num(1), "a", "aa", "B", "b"), each(api.Eq, num(2), "b", "aa", "a", "B"), "", "B"},
		{each(api.Eq, num(1), "b", "aa", "a", "C"), append(each(api.Eq, num(2), "b", "aa"), has("a"), has("C")), "", "aa"},
		{each(api.Eq, num(1), "\xff", "z"), each(api.Eq, num(2), "z", "\xff"), "", "z"},
		{each(api.Eq, num(1), "\xff", "a", sixteen), each(api.Ge, num(1), "\x00", "A b", "aa"), "\x00=1 A b=1 a=1 aa=1 " + sixteen + "=1 \xff=1", ""},
		{of(cons(sixteen, api.Lt, num(0))), of(cons(sixteen, api.Gt, num(0))), "", sixteen},
		{of(cons(sixteen[:15], api.Lt, num(0))), of(cons(sixteen, api.Eq, num(7))), sixteen[:15] + "=-9223372036854775808 " + sixteen + "=7", ""},
	}
}

// pairsOfMany answers pairs of which one name has several constraints, or which have as many of them as they may.
func pairsOfMany() []pair {
	var without, six api.Pred
	for n := range int64(6) {
		without = append(without, a(api.Ne, num(n)))
		six = append(six, a(api.Ge, num(n-6)))
	}
	set := func(from, to int64) api.Constraint {
		c := in("a")
		for n := from; n <= to; n++ {
			c.Set = append(c.Set, num(n))
		}
		return c
	}
	return []pair{
		{of(a(api.Ge, num(1)), a(api.Le, num(9)), a(api.Ne, num(5))), of(a(api.Gt, num(4)), a(api.Lt, num(7))), "a=6", ""},
		{of(a(api.Ge, num(1)), a(api.Le, num(9)), a(api.Ne, num(5))), of(a(api.Gt, num(4)), a(api.Lt, num(7)), a(api.Ne, num(6))), "", "a"},
		{of(in("a", num(1), num(2))), of(in("a", num(2), num(3)), in("a", num(3), num(1))), "", "a"},
		{of(in("a", num(1), num(2), num(3))), of(in("a", num(2), num(3)), in("a", num(3), num(1))), "a=3", ""},
		{of(in("a", word("x"), num(3), num(2))), of(in("a", num(4), word("x"), num(3))), "a=3", ""},
		{of(in("a", word("x"), num(3), num(2))), of(in("a", num(4), word("x"), num(5))), `a="x"`, ""},
		{of(in("a", truth(true), word("x"))), of(in("a", word("y"), truth(true))), "a=true", ""},
		{of(in("a", truth(true), word("x"))), of(in("a", word("y"), truth(false))), "", "a"},
		{of(has("a"), has("a")), of(has("a")), "a=-9223372036854775808", ""},
		{without, of(set(-9, -9), set(0, 5)), "", "a"},
		{without, of(set(0, 5)), "", "a"},
		{without, of(set(1, 6), a(api.Gt, num(-1)), a(api.Lt, num(9)), has("a"), a(api.Ge, num(0)), a(api.Le, num(8))), "a=6", ""},
		{without, six, "a=-1", ""},
		{without, append(six[:5:5], a(api.Eq, num(3))), "", "a"},
		{each(api.Gt, num(1), "l", "b", "j", "d", "h", "f"), each(api.Lt, truth(true), "a", "k", "c", "i", "e", "g"), "a=false b=2 c=false d=2 e=false f=2 g=false h=2 i=false j=2 k=false l=2", ""},
		{each(api.Gt, num(1), "l", "b", "j", "d", "h", "f"), each(api.Lt, num(2), "a", "k", "c", "i", "e", "l"), "", "l"},
		{each(api.Gt, num(1), "f", "e", "d", "c", "b", "a"), each(api.Lt, num(3), "a", "b", "c", "d", "e", "f"), "a=2 b=2 c=2 d=2 e=2 f=2", ""},
	}
}

// pairsOfValues answers pairs of which the values' order tells.
func pairsOfValues() []pair {
	no, yes := truth(false), truth(true)
	return []pair{
		{of(a(api.Gt, num(5))), of(a(api.Lt, num(7))), "a=6", ""},
		{of(a(api.Gt, num(5))), of(a(api.Lt, num(6))), "", "a"},
		{of(a(api.Gt, num(5))), of(a(api.Le, num(6))), "a=6", ""},
		{of(a(api.Ge, num(5))), of(a(api.Le, num(5))), "a=5", ""},
		{of(a(api.Ge, num(5))), of(a(api.Lt, num(5))), "", "a"},
		{of(a(api.Eq, num(1))), of(has("a")), "a=1", ""},
		{of(a(api.Eq, num(5))), of(a(api.Ne, num(5))), "", "a"},
		{of(a(api.Ne, num(5))), of(a(api.Ne, num(6))), "a=-9223372036854775808", ""},
		{of(a(api.Eq, num(5))), of(a(api.Eq, word("5"))), "", "a"},
		{of(a(api.Ne, num(5))), of(a(api.Ne, word("5"))), "", "a"},
		{of(a(api.Ne, num(5))), of(a(api.Ne, yes)), "", "a"},
		{of(a(api.Ge, num(least))), of(a(api.Prefix, word(""))), "", "a"},
		{of(a(api.Ge, word(""))), of(a(api.Ge, no)), "", "a"},
		{of(a(api.Ge, num(least))), of(a(api.Le, num(greatest))), "a=-9223372036854775808", ""},
		{of(a(api.Le, num(least))), of(a(api.Ge, num(least))), "a=-9223372036854775808", ""},
		{of(a(api.Lt, num(least))), of(has("a")), "", "a"},
		{of(a(api.Lt, num(least))), nil, "", "a"},
		{of(a(api.Ne, num(least))), of(a(api.Le, num(least+1))), "a=-9223372036854775807", ""},
		{of(a(api.Ne, num(least))), of(a(api.Le, num(least))), "", "a"},
		{of(a(api.Gt, num(greatest))), of(has("a")), "", "a"},
		{of(a(api.Gt, num(greatest))), nil, "", "a"},
		{of(a(api.Gt, num(greatest-1))), of(a(api.Le, num(greatest))), "a=9223372036854775807", ""},
		{of(a(api.Gt, num(greatest-1))), of(a(api.Lt, num(greatest))), "", "a"},
		{of(a(api.Ge, num(greatest))), of(a(api.Ne, num(greatest))), "", "a"},
		{of(a(api.Ge, no)), of(a(api.Le, yes)), "a=false", ""},
		{of(a(api.Gt, no)), of(has("a")), "a=true", ""},
		{of(a(api.Lt, yes)), of(has("a")), "a=false", ""},
		{of(a(api.Gt, no)), of(a(api.Lt, yes)), "", "a"},
		{of(a(api.Ne, no)), of(a(api.Ne, yes)), "", "a"},
		{of(a(api.Ne, no)), of(in("a", no, yes)), "a=true", ""},
		{of(a(api.Ne, no)), of(in("a", num(0), yes, word("x"))), "a=true", ""},
		{of(a(api.Lt, no)), of(has("a")), "", "a"},
		{of(a(api.Gt, yes)), of(has("a")), "", "a"},
	}
}

// pairsOfTexts answers pairs that are told apart by texts.
func pairsOfTexts() []pair {
	z, ff := strings.Repeat("z", 32), strings.Repeat("\xff", 32)
	return []pair{
		{of(s(api.Prefix, "ab")), of(s(api.Lt, "ab")), "", "s"},
		{of(s(api.Prefix, "ab")), of(s(api.Prefix, "abc")), `s="abc"`, ""},
		{of(s(api.Prefix, "ab")), of(s(api.Prefix, "ac")), "", "s"},
		{of(s(api.Prefix, "ab")), of(s(api.Le, "ab")), `s="ab"`, ""},
		{of(s(api.Prefix, "ab")), of(s(api.Ge, "ac")), "", "s"},
		{of(s(api.Prefix, "ab")), of(s(api.Gt, "abz")), `s="abz\x00"`, ""},
		{of(s(api.Prefix, "ab")), of(s(api.Eq, "a")), "", "s"},
		{of(s(api.Prefix, "ab")), of(s(api.Ne, "ab")), `s="ab\x00"`, ""},
		{of(s(api.Prefix, "a\xff")), of(s(api.Ge, "b")), "", "s"},
		{of(s(api.Prefix, "a\xff")), of(s(api.Gt, "a\xff\xff")), `s="a\xff\xff\x00"`, ""},
		{of(s(api.Prefix, "")), of(has("s")), `s=""`, ""},
		{of(s(api.Prefix, "")), of(s(api.Ne, "")), `s="\x00"`, ""},
		{of(s(api.Eq, "")), of(s(api.Le, "")), `s=""`, ""},
		{of(s(api.Eq, "")), of(s(api.Lt, "\x00")), `s=""`, ""},
		{of(s(api.Lt, "")), of(has("s")), "", "s"},
		{of(s(api.Lt, "")), nil, "", "s"},
		{of(s(api.Gt, "")), of(s(api.Lt, "\x00")), "", "s"},
		{of(s(api.Gt, "")), of(s(api.Le, "\x00")), `s="\x00"`, ""},
		{of(s(api.Eq, "")), of(s(api.Eq, "\x00")), "", "s"},
		{of(s(api.Gt, "x")), of(s(api.Lt, "x\x00")), "", "s"},
		{of(s(api.Gt, "x")), of(s(api.Le, "x\x00")), `s="x\x00"`, ""},
		{of(s(api.Ge, "x")), of(s(api.Lt, "x\x00")), `s="x"`, ""},
		{of(s(api.Ge, "x"), s(api.Ne, "x")), of(s(api.Lt, "x\x00\x00")), `s="x\x00"`, ""},
		{of(s(api.Ge, "x"), s(api.Ne, "x\x00")), of(s(api.Lt, "x\x00\x00"), s(api.Gt, "x")), "", "s"},
		{of(s(api.Prefix, "\xff")), of(s(api.Gt, "\xff")), `s="\xff\x00"`, ""},
		{of(s(api.Prefix, "\xff\xff")), of(s(api.Gt, "\xff")), `s="\xff\xff"`, ""},
		{of(s(api.Prefix, "\xff\xff")), of(s(api.Lt, "\xff\xff")), "", "s"},
		{of(s(api.Prefix, "\xff\xff")), of(s(api.Prefix, "\xff\xfe")), "", "s"},
		{of(s(api.Prefix, "\xff\xff")), of(s(api.Gt, "\xff\xff\xff")), `s="\xff\xff\xff\x00"`, ""},
		{of(s(api.Prefix, ff)), of(s(api.Gt, ff)), fmt.Sprintf("s=%q", ff+"\x00"), ""},
		{of(s(api.Prefix, z)), of(s(api.Gt, z)), fmt.Sprintf("s=%q", z+"\x00"), ""},
		{of(s(api.Prefix, z)), of(s(api.Lt, z[1:]+"{")), fmt.Sprintf("s=%q", z), ""},
		{of(s(api.Prefix, z)), of(s(api.Ge, z[1:]+"{")), "", "s"},
	}
}

// allPairs answers all that is laid out by hand.
func allPairs() []pair {
	return slices.Concat(pairsOfNames(), pairsOfMany(), pairsOfValues(), pairsOfTexts())
}

// check holds all that is told of two predicates, this way round, against what should be.
func check(t *testing.T, p, q api.Pred, example, apart string) {
	t.Helper()
	overlap := apart == ""
	if got := Overlaps(p, q); got != overlap {
		t.Fatalf("%v, %v: overlap %v", p, q, got)
	}
	e, is := Example(p, q)
	if is != overlap || told(e) != example {
		t.Fatalf("%v, %v: %v, %v, not %s", p, q, told(e), is, example)
	}
	if is && (!pred.Matches(p, e) || !pred.Matches(q, e)) {
		t.Fatalf("%v, %v: %v shows nothing", p, q, told(e))
	}
	if name, is := Apart(p, q); name != apart || is == overlap {
		t.Fatalf("%v, %v: apart by %q, %v, not %q", p, q, name, is, apart)
	}
}

func TestOverlapExampleAndApart(t *testing.T) {
	for _, x := range allPairs() {
		check(t, x.p, x.q, x.example, x.apart)
		check(t, x.q, x.p, x.example, x.apart)
	}
}

func TestAny(t *testing.T) {
	for _, x := range []struct {
		p    api.Pred
		want bool
	}{
		{nil, true}, {api.Pred{}, true}, {of(has("a")), true}, {of(has("A b\xff")), true}, {of(a(api.Ne, truth(true)), a(api.Ne, truth(false))), false}, {of(a(api.Ne, truth(true))), true},
		{nothing("a"), false}, {append(nothing("z"), has("a")), false}, {append(of(has("a")), nothing("z")...), false}, {of(a(api.Gt, num(5)), a(api.Lt, num(7))), true}, {of(a(api.Gt, num(5)), a(api.Lt, num(6))), false},
		{of(a(api.Lt, num(least))), false}, {of(a(api.Le, num(least))), true}, {of(a(api.Gt, num(greatest))), false}, {of(a(api.Ge, num(greatest))), true}, {of(a(api.Lt, truth(false))), false}, {of(a(api.Gt, truth(true))), false}, {of(a(api.Gt, truth(false))), true},
		{of(s(api.Lt, "")), false}, {of(s(api.Le, "")), true}, {of(s(api.Gt, "x"), s(api.Lt, "x\x00")), false}, {of(s(api.Gt, strings.Repeat("\xff", 32))), true}, {of(s(api.Prefix, "\xff"), s(api.Lt, "\xff")), false},
		{of(a(api.Eq, num(1)), has("b"), has("c"), has("d"), has("e"), a(api.Eq, num(1))), true}, {of(a(api.Eq, num(1)), has("b"), has("c"), has("d"), has("e"), a(api.Eq, num(2))), false},
	} {
		if got := Any(x.p); got != x.want || Overlaps(x.p, nil) != x.want || Overlaps(nil, x.p) != x.want {
			t.Errorf("%v: %v", x.p, got)
		}
	}
}

// wrong answers predicates that may not be.
func wrong() []api.Pred {
	return []api.Pred{
		{{}}, {has("")}, {has(strings.Repeat("a", 17))}, {{Name: "a"}}, {{Name: "a", Op: 10}}, {{Name: "a", Op: -1, Value: num(1)}}, {{Name: "a", Op: math.MinInt}}, {in("a")}, {in("a", slices.Repeat([]api.Value{num(1)}, 7)...)}, {in("a", api.Value{})}, {in("a", num(1), word(strings.Repeat("x", 33)))},
		{cons("a", api.Eq, api.Value{})}, {cons("a", api.Has, num(0))}, {cons("a", api.Prefix, num(1))}, {cons("a", api.Le, word(strings.Repeat("x", 33)))}, {cons("a", api.Gt, api.Value{Kind: api.Int, Str: "x"})}, {cons("a", api.Ne, api.Value{Kind: 4})},
		{{Name: "a", Op: api.Has, Set: []api.Value{num(1)}}}, {{Name: "a", Op: api.In, Value: num(1), Set: []api.Value{num(1)}}},
		{has("a"), has("b"), {}}, append(nothing("a"), api.Constraint{Name: "b", Op: 12}), append(nothing("b"), has("")),
		slices.Repeat(api.Pred{has("a")}, 7), slices.Repeat(nothing("a"), 4), make(api.Pred, 1<<16),
	}
}

// brief answers the beginning of p, which may be very long.
func brief(p api.Pred) string { return fmt.Sprintf("%d: %v", len(p), p[:min(len(p), 7)]) }

func TestWhatMayNotBe(t *testing.T) {
	fine := []api.Pred{nil, {has("a")}, {has("b")}, nothing("a"), nothing("0"), slices.Repeat(api.Pred{has("a")}, 6)}
	for _, p := range wrong() {
		if Any(p) {
			t.Errorf("%s: any", brief(p))
		}
		for _, q := range append(append(wrong(), fine...), p) {
			for _, x := range [][2]api.Pred{{p, q}, {q, p}} {
				if Overlaps(x[0], x[1]) {
					t.Errorf("%s, %s: overlap", brief(x[0]), brief(x[1]))
				}
				if e, is := Example(x[0], x[1]); is || !event.Same(e, api.Event{}) {
					t.Errorf("%s, %s: %v, %v", brief(x[0]), brief(x[1]), e, is)
				}
				if name, is := Apart(x[0], x[1]); is || name != "" {
					t.Errorf("%s, %s: %q, %v", brief(x[0]), brief(x[1]), name, is)
				}
			}
		}
	}
}

// TestEachMayBe holds mixtures of odd things: whichever constraint may be overlaps what asks for all values, if it holds of any.
func TestEachMayBe(t *testing.T) {
	values := []api.Value{{}, {Kind: 4}, {Num: 1}, num(0), num(least), word("a\xff"), word(strings.Repeat("a", 33)), truth(true), {Kind: api.Int, Num: 1, Str: "a"}, {Kind: api.Str, Str: "a", Bool: true}, {Kind: api.Bool, Num: 1}}
	sets := [][]api.Value{nil, {}, {num(1)}, {word("a"), num(1), truth(false), num(1)}, {num(1), {}}, {word(strings.Repeat("a", 33))}, slices.Repeat([]api.Value{num(1)}, 6), slices.Repeat([]api.Value{num(1)}, 7)}
	may := 0
	for _, name := range []string{"", "a", "A b\xff", strings.Repeat("a", 16), strings.Repeat("a", 17)} {
		for op := -1; op <= 11; op++ {
			for _, v := range values {
				for _, set := range sets {
					c := api.Constraint{Name: name, Op: op, Value: v, Set: set}
					want := pred.MayCons(c) && (op != api.Lt || v != num(least)) && (op != api.Gt || v != truth(true))
					_, apart := Apart(of(c), of(has(name)))
					if Any(of(c)) != want || Overlaps(of(has("b")), of(c)) != want || apart != (pred.MayCons(c) && !want) {
						t.Fatalf("%#v: any %v, not %v, apart %v", c, Any(of(c)), want, apart)
					}
					if want {
						may++
					}
				}
			}
		}
	}
	if may < 80 {
		t.Error("too few may be:", may)
	}
}

// dice make predicates of a few values.
type dice struct {
	*rand.Rand
	owns []api.Value
}

func newDice(seed int64, owns []api.Value) dice {
	return dice{rand.New(rand.NewSource(seed)), owns}
}

// cons answers a constraint of one of these names, that may be.
func (d dice) cons(names ...string) api.Constraint {
	own := func() api.Value { return d.owns[d.Intn(len(d.owns))] }
	c := api.Constraint{Name: names[d.Intn(len(names))], Op: api.Has + d.Intn(9)}
	switch c.Op {
	case api.Has:
	case api.In:
		for range 1 + d.Intn(6) {
			c.Set = append(c.Set, own())
		}
	default:
		c.Value = own()
		for c.Op == api.Prefix && c.Value.Kind != api.Str {
			c.Value = own()
		}
	}
	return c
}

// pred answers a predicate of at most that many constraints.
func (d dice) pred(most int, names ...string) api.Pred {
	var p api.Pred
	for range d.Intn(most + 1) {
		p = append(p, d.cons(names...))
	}
	return p
}

// few answers some values, so that predicates of them are often near each other.
func few() []api.Value {
	return []api.Value{num(0), num(1), num(2), word(""), word("x"), word("x\x00"), truth(false), truth(true)}
}

// many answers values at all edges.
func many() []api.Value {
	l := []api.Value{truth(false), truth(true)}
	for _, n := range []int64{least, least + 1, -1, 0, 1, greatest - 1, greatest} {
		l = append(l, num(n))
	}
	for _, s := range []string{"", "\x00", "\x00\x00", "a", "a\x00", "a\x00\x00", "a\xff", "ab", "b", "\xff", "\xff\x00", "\xff\xff", strings.Repeat("\xff", 32), strings.Repeat("z", 32), strings.Repeat("z", 31)} {
		l = append(l, word(s))
	}
	return l
}

// shown answers, in order, values that show all that predicates of these values ask for: what one of them asks for begins at one of them, right behind it, or at its Kind's least value.
func shown(owns []api.Value) []api.Value {
	l := []api.Value{num(least), word(""), truth(false)}
	for _, v := range owns {
		l = append(l, v)
		switch {
		case v.Kind == api.Int && v.Num < greatest:
			l = append(l, num(v.Num+1))
		case v.Kind == api.Str:
			l = append(l, word(v.Str+"\x00"))
		case v == truth(false):
			l = append(l, truth(true))
		}
	}
	slices.SortFunc(l, value.Compare)
	return slices.Compact(l)
}

// wanted answers what should be told of two predicates that may be, by the words of the chapter: each value is asked of each constraint.
func wanted(p, q api.Pred, values []api.Value) (example, apart string) {
	var names []string
	for _, c := range slices.Concat(p, q) {
		if !slices.Contains(names, c.Name) {
			names = append(names, c.Name)
		}
	}
	slices.Sort(names)
	var e api.Event
	for _, name := range names {
		i := slices.IndexFunc(values, func(v api.Value) bool {
			return !slices.ContainsFunc(slices.Concat(p, q), func(c api.Constraint) bool { return c.Name == name && !pred.Holds(c, v) })
		})
		if i < 0 {
			return "", name
		}
		e.Attrs = append(e.Attrs, api.Attr{Name: name, Value: values[i]})
	}
	return told(e), ""
}

// TestOfAny holds predicates of few and of many values, and of as many constraints as they may have, against the words of the chapter.
func TestOfAny(t *testing.T) {
	for i, owns := range [][]api.Value{few(), many()} {
		d, values, together := newDice(int64(i), owns), shown(owns), 0
		for range 6000 {
			names := []string{"a", "B", "aa", "\xff", "c", "d"}[:1+d.Intn(6)]
			p, q := d.pred(1+d.Intn(6), names...), d.pred(1+d.Intn(6), names...)
			example, apart := wanted(p, q, values)
			check(t, p, q, example, apart)
			check(t, q, p, example, apart)
			_, alone := wanted(p, nil, values)
			if Any(p) != (alone == "") || apart == "" && !Any(q) {
				t.Fatalf("%v, %v: any %v", p, q, Any(p))
			}
			if apart == "" {
				together++
			}
		}
		if together < 1000 || together > 5000 {
			t.Error("too few, or too many, overlap:", together)
		}
	}
}

// events answers all events of these names, with such values, or without some of them.
func events(values []api.Value, names ...string) []api.Event {
	l := []api.Event{{}}
	for _, name := range names {
		for _, e := range l {
			for _, v := range values {
				l = append(l, api.Event{Attrs: append(slices.Clone(e.Attrs), api.Attr{Name: name, Value: v})})
			}
		}
	}
	return l
}

// TestExact holds Overlaps against all events of two names; and who overlaps one that a third one covers must overlap that.
func TestExact(t *testing.T) {
	d, all := newDice(3, few()), events(append(shown(few()), api.Value{}), "a", "b")
	preds := []api.Pred{nil, {has("a")}, {has("b")}, {has("b"), has("a")}, nothing("b")}
	for len(preds) < 250 {
		preds = append(preds, d.pred(4, "a", "b"))
	}
	matched := make([][]int, len(preds))
	for i, p := range preds {
		for n, e := range all {
			if pred.Matches(p, e) {
				matched[i] = append(matched[i], n)
			}
		}
	}
	overlap, together := make([][]bool, len(preds)), 0
	for i, p := range preds {
		for j, q := range preds {
			both := slices.ContainsFunc(matched[i], func(n int) bool { _, is := slices.BinarySearch(matched[j], n); return is })
			_, is := Example(p, q)
			overlap[i] = append(overlap[i], Overlaps(p, q))
			if overlap[i][j] != both || is != both {
				t.Fatalf("%v, %v: overlap %v, shown %v, not %v", p, q, overlap[i][j], is, both)
			}
			if both && (!Any(p) || !Any(q)) {
				t.Fatalf("%v, %v: overlap, and one of them matches nothing", p, q)
			}
			if both {
				together++
			}
		}
		if overlap[i][i] != Any(p) || Any(p) != (len(matched[i]) > 0) {
			t.Fatalf("%v: any %v", p, Any(p))
		}
	}
	if together < 5000 || together > 50000 {
		t.Error("too few, or too many, overlap:", together)
	}
	checkWider(t, preds, overlap)
}

// checkWider holds overlap, which must go both ways, against which predicates cover which.
func checkWider(t *testing.T, preds []api.Pred, overlap [][]bool) {
	t.Helper()
	wider := 0
	for j, q := range preds {
		for k, r := range preds {
			if overlap[j][k] != overlap[k][j] {
				t.Fatalf("%v, %v: one way alone", q, r)
			}
			if j == k || !cover.Covers(r, q) {
				continue
			}
			for i, p := range preds {
				if overlap[i][j] && !overlap[i][k] {
					t.Fatalf("%v overlaps %v, but not %v", p, q, r)
				}
				if overlap[i][j] {
					wider++
				}
			}
		}
	}
	if wider < 10000 {
		t.Error("too few are covered:", wider)
	}
}

// TestInOtherWords: the order of constraints, what stands twice, and the normal form change nothing.
func TestInOtherWords(t *testing.T) {
	d := newDice(4, many())
	for range 2000 {
		p, q := d.pred(4, "a", "b", "c"), d.pred(6, "a", "b", "c")
		mixed := append(slices.Clone(p), p[:min(2, len(p))]...)
		d.Shuffle(len(mixed), func(i, j int) { mixed[i], mixed[j] = mixed[j], mixed[i] })
		normal, _ := pred.Normal(p)
		e, _ := Example(p, q)
		name, _ := Apart(p, q)
		check(t, mixed, q, told(e), name)
		check(t, q, normal, told(e), name)
	}
}

// TestNothingIsKept: what is handed in is only read, and what is answered is new.
func TestNothingIsKept(t *testing.T) {
	set := []api.Value{num(8), num(6)}
	given := func() (p, q api.Pred) {
		p = append(make(api.Pred, 0, 9), cons("b", api.Gt, num(7)), in("a", num(9), num(8), num(6)))
		return p, of(has("c"), in("a", set...), a(api.Gt, num(5)))
	}
	p, q := given()
	e, _ := Example(p, q)
	Overlaps(p, q)
	Apart(p, q)
	Any(p)
	first, second := given()
	behind := slices.ContainsFunc(p[len(p):cap(p)], func(c api.Constraint) bool { return c.Name != "" })
	if !pred.Same(p, first) || !pred.Same(q, second) || behind {
		t.Errorf("%v, %v; written behind it: %v", p, q, behind)
	}
	const want = "a=6 b=8 c=-9223372036854775808"
	set[0], set[1], q[0].Name = num(1), num(2), "d"
	if told(e) != want {
		t.Error(told(e))
	}
	if name, is := Apart(p, q); !is || name != "a" {
		t.Errorf("%q, %v", name, is)
	}
	e.Attrs[0].Value, e.Attrs[1].Name = num(0), "x"
	set[0], set[1], q[0].Name = num(8), num(6), "c"
	if e, is := Example(p, q); !is || told(e) != want {
		t.Error(told(e), is)
	}
}
