package cover

import (
	"math"
	"math/rand"
	"slices"
	"strings"
	"testing"

	"pneumatic/api"
	"pneumatic/pred"
	"pneumatic/value"
)

const (
	least    = math.MinInt64
	greatest = math.MaxInt64
)

func num(n int64) api.Value   { return value.Number(n) }
func word(s string) api.Value { return value.Word(s) }
func truth(b bool) api.Value  { return value.Truth(b) }

func has(name string) api.Constraint { return api.Constraint{Name: name, Op: api.Has} }

func cons(name string, op int, v api.Value) api.Constraint {
	return api.Constraint{Name: name, Op: op, Value: v}
}

func in(name string, set ...api.Value) api.Constraint {
	return api.Constraint{Name: name, Op: api.In, Set: set}
}

// region answers the region of a constraint of which the test knows that it may be.
func region(c api.Constraint) Region {
	r, err := Of(c)
	if err != api.OK {
		panic(err)
	}
	return r
}

func only(v api.Value) Region           { return region(in("a", v)) }
func part(op int, own api.Value) Region { return region(cons("a", op, own)) }

// words answers all texts of at most so many of these letters.
func words(letters []string, most int) []string {
	l := []string{""}
	for from := 0; most > 0; most-- {
		to := len(l)
		for _, s := range l[from:to] {
			for _, c := range letters {
				l = append(l, s+c)
			}
		}
		from = to
	}
	return l
}

// long answers texts as long as a value's may be.
func long() []string {
	return []string{strings.Repeat("z", 32), strings.Repeat("\xff", 32), strings.Repeat("\x00", 32), strings.Repeat("z", 31) + "\xff"}
}

// owns answers values that constraints of the tests have.
func owns() []api.Value {
	l := []api.Value{truth(false), truth(true)}
	for _, n := range []int64{least, least + 1, -1, 0, 1, 2, greatest - 1, greatest} {
		l = append(l, num(n))
	}
	for _, s := range append(words([]string{"\x00", "a", "\xff"}, 2), long()...) {
		l = append(l, word(s))
	}
	return l
}

// odd answers values of no Kind that has values of its own.
func odd() []api.Value {
	return []api.Value{{}, {Kind: 4}, {Kind: -1, Num: 3}, {Kind: 9, Str: "a"}, {Kind: math.MinInt, Bool: true}, {Kind: math.MaxInt}}
}

// sample answers values that show all that constraints with values of owns tell apart: each at which a region of one begins is there, and each right behind its end.
// They are in order, and the odd ones behind them all.
func sample() []api.Value {
	l := []api.Value{truth(false), truth(true)}
	for _, n := range []int64{least, least + 1, least + 2, -2, -1, 0, 1, 2, 3, greatest - 2, greatest - 1, greatest} {
		l = append(l, num(n))
	}
	texts := words([]string{"\x00", "\x01", "a", "b", "\xff"}, 3)
	for _, s := range long() {
		texts = append(texts, s, s+"\x00", s+"\x01", s+"\xff", s[:31])
	}
	texts = append(texts, strings.Repeat("z", 31)+"{", strings.Repeat("z", 30)+"{", strings.Repeat("\x00", 31)+"\x01", strings.Repeat("z", 1000))
	for _, s := range texts {
		l = append(l, word(s))
	}
	slices.SortFunc(l, value.Compare)
	return append(slices.Compact(l), odd()...)
}

// allCons hands each mixture of odd things to do, such as may not be too.
func allCons(do func(api.Constraint)) {
	values := append(odd(), num(0), num(least), word(""), word("a\xff"), word(strings.Repeat("a", 33)), truth(true),
		api.Value{Num: 1}, api.Value{Kind: api.Int, Num: 1, Str: "a"}, api.Value{Kind: api.Str, Str: "a", Bool: true}, api.Value{Kind: api.Bool, Num: 1})
	sets := [][]api.Value{nil, {}, {num(1)}, {word("a"), num(1), truth(false), num(1)}, {num(1), {}}, {{Kind: 4}}, {word(strings.Repeat("a", 33))},
		slices.Repeat([]api.Value{num(1)}, 6), slices.Repeat([]api.Value{num(1)}, 7)}
	for _, name := range []string{"", "a", "A b\xff", strings.Repeat("a", 16), strings.Repeat("a", 17)} {
		for _, op := range []int{math.MinInt, -1, 0, 1, 2, 3, 4, 5, 6, 7, 8, 9, 10, 11, math.MaxInt} {
			for _, v := range values {
				for _, set := range sets {
					do(api.Constraint{Name: name, Op: op, Value: v, Set: set})
				}
			}
		}
	}
}

func TestOf(t *testing.T) {
	values, full := sample(), 0
	check := func(c api.Constraint) {
		r, err := Of(c)
		if err != api.OK {
			t.Fatalf("%#v: %d", c, err)
		}
		for _, v := range values {
			if r.Has(v) != pred.Holds(c, v) {
				t.Fatalf("%#v, %#v: %v", c, v, r.Has(v))
			}
		}
		if r.Empty() == slices.ContainsFunc(values, r.Has) {
			t.Fatalf("%#v: empty %v", c, r.Empty())
		}
		if !r.Empty() {
			full++
		}
	}
	check(has("a"))
	for _, v := range owns() {
		for op := api.Eq; op <= api.Ge; op++ {
			check(cons("a", op, v))
		}
		if v.Kind == api.Str {
			check(cons("a", api.Prefix, v))
		}
		check(in("a", v))
		check(in("a", v, truth(true), num(1), word("a"), num(0), v))
		check(in("a", word("b"), v, word("a\x00"), word("a"), num(2), num(1)))
	}
	if full < 200 {
		t.Error("too few hold of anything:", full)
	}
}

func TestOfWhatMayNotBe(t *testing.T) {
	may, values := 0, sample()
	allCons(func(c api.Constraint) {
		r, err := Of(c)
		if ok := pred.MayCons(c); ok != (err == api.OK) || !ok && (err != api.ErrMalformed || !r.Empty() || slices.ContainsFunc(values, r.Has)) {
			t.Fatalf("%#v: %v, %d", c, r, err)
		}
		if err != api.OK {
			return
		}
		may++
		for _, v := range values {
			if r.Has(v) != pred.Holds(c, v) {
				t.Fatalf("%#v, %#v: %v", c, v, r.Has(v))
			}
		}
	})
	if may < 50 {
		t.Error("too few may be:", may)
	}
}

// TestHasTellsByCompare: fields that a value's Kind has no use for are not looked at.
func TestHasTellsByCompare(t *testing.T) {
	r := region(in("a", num(3), word("x"), truth(true)))
	for _, v := range []api.Value{{Kind: api.Int, Num: 3, Str: "y", Bool: true}, {Kind: api.Str, Num: 9, Str: "x", Bool: true}, {Kind: api.Bool, Num: 9, Str: "y", Bool: true}} {
		if !r.Has(v) {
			t.Errorf("%#v is in", v)
		}
	}
	for _, v := range []api.Value{{Kind: api.Int, Str: "x", Bool: true}, {Kind: api.Str, Num: 3, Bool: true}, {Kind: api.Bool, Num: 3, Str: "x"}, {Num: 3}, {Str: "x"}, {Bool: true}, {Kind: 4, Num: 3, Str: "x", Bool: true}} {
		if r.Has(v) {
			t.Errorf("%#v is not in", v)
		}
	}
}

func TestAllAndNothing(t *testing.T) {
	var none Region
	all := All()
	for _, v := range sample() {
		if !all.Has(v) || none.Has(v) {
			t.Errorf("%#v", v)
		}
	}
	if all.Empty() || !none.Empty() {
		t.Error("Empty")
	}
	for _, x := range []struct {
		name string
		r    Region
		want Region
	}{
		{"all and all", all.And(all), all}, {"all and none", all.And(none), none}, {"none and all", none.And(all), none}, {"none and none", none.And(none), none},
		{"all less all", all.Minus(all), none}, {"all less none", all.Minus(none), all}, {"none less all", none.Minus(all), none}, {"none less none", none.Minus(none), none},
		{"has", region(has("a")), all},
	} {
		if !x.r.Within(x.want) || !x.want.Within(x.r) || x.r.Empty() != x.want.Empty() {
			t.Error(x.name)
		}
	}
	if !none.Within(none) || !none.Within(all) || all.Within(none) || !all.Within(all) {
		t.Error("Within")
	}
}

// oddOnes answers the region of the odd ones alone.
func oddOnes() Region {
	r := All()
	for _, op := range []int{api.Le, api.Gt} {
		for _, v := range []api.Value{num(0), word("m"), truth(false)} {
			r = r.Minus(part(op, v))
		}
	}
	return r
}

func TestOddOnes(t *testing.T) {
	r := oddOnes()
	for _, v := range sample() {
		if r.Has(v) != (v.Kind < 1 || v.Kind > 3) {
			t.Errorf("%#v: %v", v, r.Has(v))
		}
	}
	if v, is := r.Some(); r.Empty() || !is || v != (api.Value{}) {
		t.Errorf("%#v, %v", v, is)
	}
	beside := All().Minus(part(api.Ne, truth(true)))
	if r.Within(Region{}) || !r.Within(beside) || beside.Within(r) || !r.Minus(beside).Empty() || beside.Minus(r).Has(api.Value{}) || !r.And(beside).Has(api.Value{Kind: 7}) {
		t.Error("beside others")
	}
	if kinds := All().Minus(r); kinds.Has(api.Value{}) || !kinds.Has(num(0)) || !kinds.And(r).Empty() || All().Within(kinds) || !kinds.Within(All()) {
		t.Error("without them")
	}
}

func TestSome(t *testing.T) {
	z, ff := strings.Repeat("z", 32), strings.Repeat("\xff", 32)
	nine := strings.Repeat("x", 9)
	for _, x := range []struct {
		r    Region
		want api.Value
	}{
		{All(), num(least)},
		{part(api.Gt, word("x")), word("x\x00")}, {part(api.Ge, word("x")), word("x")}, {part(api.Lt, word("x")), word("")}, {part(api.Le, word("")), word("")}, {part(api.Ne, word("")), word("\x00")}, {part(api.Ne, word("x")), word("")},
		{part(api.Gt, word(z)), word(z + "\x00")}, {part(api.Gt, word(ff)), word(ff + "\x00")}, {part(api.Prefix, word(nine)), word(nine)}, {part(api.Prefix, word("")), word("")}, {part(api.Prefix, word(ff)), word(ff)},
		{part(api.Prefix, word("x")).Minus(only(word("x"))), word("x\x00")}, {part(api.Ge, word("ab")).Minus(part(api.Prefix, word("ab"))), word("ac")}, {part(api.Ge, word("a\xff")).Minus(part(api.Prefix, word("a\xff"))), word("b")},
		{part(api.Ge, word("a\xff\xff")).Minus(part(api.Prefix, word("a\xff"))), word("b")}, {part(api.Prefix, word("\xff")).Minus(only(word("\xff"))), word("\xff\x00")},
		{part(api.Ne, truth(false)), truth(true)}, {part(api.Ne, truth(true)), truth(false)}, {part(api.Ge, truth(false)), truth(false)}, {part(api.Gt, truth(false)), truth(true)}, {part(api.Le, truth(true)), truth(false)}, {part(api.Ge, truth(true)), truth(true)},
		{part(api.Gt, num(5)), num(6)}, {part(api.Gt, num(greatest-1)), num(greatest)}, {part(api.Ge, num(greatest)), num(greatest)}, {part(api.Lt, num(5)), num(least)}, {part(api.Le, num(least)), num(least)}, {part(api.Ne, num(least)), num(least + 1)}, {part(api.Gt, num(-1)), num(0)},
		{region(in("a", truth(true), word("x"), num(9), num(3))), num(3)}, {region(in("a", truth(true), word("xx"), word("x"), truth(false))), word("x")}, {region(in("a", truth(true), truth(false))), truth(false)},
		{All().Minus(region(in("a", num(least), num(least+1)))), num(least + 2)}, {All().Minus(part(api.Ge, num(least))), word("")}, {All().Minus(part(api.Ge, num(least))).Minus(part(api.Prefix, word(""))), truth(false)},
		{oddOnes(), api.Value{}},
	} {
		if v, is := x.r.Some(); !is || v != x.want || !x.r.Has(v) {
			t.Errorf("%#v, %v, not %#v", v, is, x.want)
		}
	}
	for _, r := range []Region{{}, part(api.Lt, num(least)), part(api.Gt, num(greatest)), part(api.Lt, word("")), part(api.Lt, truth(false)), part(api.Gt, truth(true)),
		part(api.Gt, word("x")).And(part(api.Lt, word("x\x00"))), part(api.Gt, num(1)).And(part(api.Lt, num(2))), part(api.Ge, num(2)).And(part(api.Le, num(1))), only(num(1)).And(only(word("1")))} {
		if v, is := r.Some(); is || v != (api.Value{}) || !r.Empty() {
			t.Errorf("%#v, %v, of nothing", v, is)
		}
	}
}

// TestSameRegions: what is the same set in other words is so both ways.
func TestSameRegions(t *testing.T) {
	a := func(op int, v api.Value) Region { return part(op, v) }
	for i, x := range [][2]Region{
		{a(api.Gt, num(5)), a(api.Ge, num(6))},
		{a(api.Lt, num(5)), a(api.Le, num(4))},
		{a(api.Gt, word("x")), a(api.Ge, word("x\x00"))},
		{a(api.Le, word("x")), a(api.Lt, word("x\x00"))},
		{a(api.Gt, truth(false)), only(truth(true))},
		{a(api.Ne, truth(false)), a(api.Eq, truth(true))},
		{a(api.Ge, truth(false)), region(in("a", truth(true), truth(false)))},
		{a(api.Ge, num(least)), a(api.Le, num(greatest))},
		{a(api.Prefix, word("")), a(api.Ge, word(""))},
		{a(api.Prefix, word("ab")), a(api.Ge, word("ab")).And(a(api.Lt, word("ac")))},
		{a(api.Prefix, word("\xff\xff")), a(api.Ge, word("\xff\xff"))},
		{a(api.Prefix, word("a\xff")), a(api.Ge, word("a\xff")).And(a(api.Lt, word("b")))},
		{a(api.Prefix, word("\x00")), a(api.Ge, word("\x00")).And(a(api.Lt, word("\x01")))},
		{a(api.Ne, num(5)), a(api.Ge, num(least)).Minus(only(num(5)))},
		{region(in("a", num(1), num(2), num(3))), a(api.Ge, num(1)).And(a(api.Lt, num(4)))},
		{region(in("a", num(3), num(1), num(2), num(1))), region(in("a", num(1), num(2), num(3)))},
		{a(api.Lt, num(least)), {}},
	} {
		if !x[0].Within(x[1]) || !x[1].Within(x[0]) || !x[0].Minus(x[1]).Empty() || !x[1].Minus(x[0]).Empty() {
			t.Error(i)
		}
	}
}

// known is a region, and which of the sample it should have.
type known struct {
	Region
	has []bool
}

// join answers what a call made of two regions, and what should be in it.
func (k known) join(l known, made Region, keep func(a, b bool) bool) known {
	joined := known{Region: made}
	for i := range k.has {
		joined.has = append(joined.has, keep(k.has[i], l.has[i]))
	}
	return joined
}

func (k known) and(l known) known {
	return k.join(l, k.And(l.Region), func(a, b bool) bool { return a && b })
}

func (k known) minus(l known) known {
	return k.join(l, k.Minus(l.Region), func(a, b bool) bool { return a && !b })
}

// within tells whether what should be in k should be in l.
func (k known) within(l known) bool {
	for i := range k.has {
		if k.has[i] && !l.has[i] {
			return false
		}
	}
	return true
}

// check holds all that a region tells of itself against what should be in it.
func (k known) check(t *testing.T, values []api.Value) {
	t.Helper()
	for i, v := range values {
		if k.Has(v) != k.has[i] {
			t.Fatalf("%v, %#v: %v", k.Region, v, k.Has(v))
		}
	}
	var want api.Value
	first := slices.Index(k.has, true)
	if first >= 0 && first < len(values)-len(odd()) {
		want = values[first]
	}
	if v, is := k.Some(); v != want || is != (first >= 0) || k.Empty() == is {
		t.Fatalf("%v: %#v, %v, not %#v", k.Region, v, is, want)
	}
}

// dice make constraints of a few values.
type dice struct {
	*rand.Rand
	owns []api.Value
}

func newDice(seed int64, owns []api.Value) dice {
	return dice{rand.New(rand.NewSource(seed)), owns}
}

func (d dice) own() api.Value { return d.owns[d.Intn(len(d.owns))] }

// cons answers a constraint of one of these names, that may be.
func (d dice) cons(names ...string) api.Constraint {
	c := api.Constraint{Name: names[d.Intn(len(names))], Op: api.Has + d.Intn(9)}
	switch c.Op {
	case api.Has:
	case api.In:
		for range 1 + d.Intn(6) {
			c.Set = append(c.Set, d.own())
		}
	default:
		c.Value = d.own()
		for c.Op == api.Prefix && c.Value.Kind != api.Str {
			c.Value = d.own()
		}
	}
	return c
}

func (d dice) known(values []api.Value) known {
	c := d.cons("a")
	k := known{Region: region(c)}
	for _, v := range values {
		k.has = append(k.has, pred.Holds(c, v))
	}
	return k
}

// TestRegionsOfAny puts regions together at random, and holds what comes of it against what should be in it.
func TestRegionsOfAny(t *testing.T) {
	values := sample()
	d := newDice(1, owns())
	within, empty := 0, 0
	for range 300 {
		l := []known{{Region{}, make([]bool, len(values))}, {All(), slices.Repeat([]bool{true}, len(values))}}
		for range 6 {
			l = append(l, d.known(values))
		}
		for range 20 {
			a, b := l[d.Intn(len(l))], l[d.Intn(len(l))]
			if d.Intn(3) == 0 {
				l = append(l, a.and(b))
			} else {
				l = append(l, a.minus(b))
			}
		}
		for _, a := range l {
			a.check(t, values)
			for _, b := range l {
				if a.Within(b.Region) != a.within(b) {
					t.Fatalf("%v, %v: within %v", a.Region, b.Region, !a.within(b))
				}
				if a.within(b) && !b.within(a) && !a.Empty() {
					within++
				}
			}
			if a.Empty() {
				empty++
			}
		}
	}
	if within < 3000 || empty < 1000 {
		t.Error("too few within others, or empty:", within, empty)
	}
}

// TestRegionsStay: a region that others were made of, and what it was made of, stay apart.
func TestRegionsStay(t *testing.T) {
	set := []api.Value{num(1), num(5), word("x"), truth(false)}
	c := in("a", set...)
	r := region(c)
	before := r.Minus(Region{})
	made := []Region{r.Minus(only(num(5))), r.And(part(api.Ge, num(1))), r.And(part(api.Le, num(1))), r.Minus(All()), All().Minus(r), All().And(r), only(num(2)).Minus(r)}
	for range 3 {
		for _, m := range made {
			for _, n := range made {
				m.And(n)
				m.Minus(n)
				m.Within(n)
			}
		}
	}
	set[0], c.Set[2] = num(7), word("y")
	for _, s := range []Region{r, before} {
		if !s.Has(num(1)) || !s.Has(num(5)) || !s.Has(word("x")) || !s.Has(truth(false)) || s.Has(num(7)) || s.Has(num(3)) || s.Has(word("y")) || s.Has(truth(true)) || s.Has(api.Value{}) {
			t.Error("a region changed")
		}
	}
	if made[0].Has(num(5)) || !made[1].Has(num(5)) || made[1].Has(word("x")) || made[2].Has(num(5)) || !made[2].Has(num(1)) || !made[3].Empty() || made[4].Has(num(5)) || !made[4].Has(num(4)) || !made[5].Has(num(5)) || !made[6].Has(num(2)) {
		t.Error("a region that was made changed")
	}
}

// TestManySpans: a region may be made of more constraints than a predicate has.
func TestManySpans(t *testing.T) {
	r := All()
	for n := range int64(500) {
		r = r.Minus(only(num(2 * n))).Minus(only(word(strings.Repeat("a", int(n)%32))))
	}
	for n := range int64(1000) {
		if r.Has(num(n)) != (n%2 == 1) {
			t.Fatal(n)
		}
	}
	if !r.Has(num(-2)) || !r.Has(num(1000)) || r.Has(word("")) || r.Has(word("aaa")) || !r.Has(word("b")) || !r.Has(word(strings.Repeat("a", 32))) || !r.Has(truth(true)) || !r.Has(api.Value{}) {
		t.Error("what is left")
	}
	gone := All().Minus(r)
	if !gone.Minus(All().Minus(r)).Empty() || gone.Has(num(1)) || !gone.Has(num(998)) || gone.Has(api.Value{}) || !gone.And(r).Empty() {
		t.Error("what is gone")
	}
	if v, is := gone.Some(); !is || v != num(0) {
		t.Errorf("%#v, %v", v, is)
	}
}
