package cover

import (
	"slices"
	"strings"
	"testing"

	"pneumatic/api"
	"pneumatic/event"
	"pneumatic/pred"
	"pneumatic/value"
)

// wrong answers predicates that may not be.
func wrong() []api.Pred {
	return []api.Pred{
		{{}}, {has("")}, {has(strings.Repeat("a", 17))}, {{Name: "a"}}, {{Name: "a", Op: 10}}, {{Name: "a", Op: -1, Value: num(1)}}, {in("a")}, {in("a", slices.Repeat([]api.Value{num(1)}, 7)...)}, {in("a", api.Value{})},
		{cons("a", api.Eq, api.Value{})}, {cons("a", api.Has, num(0))}, {cons("a", api.Prefix, num(1))}, {cons("a", api.Le, word(strings.Repeat("x", 33)))}, {cons("a", api.Gt, api.Value{Kind: api.Int, Str: "x"})},
		{has("a"), has("b"), {}}, {cons("a", api.Eq, num(1)), cons("a", api.Eq, num(2)), {Name: "b", Op: 12}},
		slices.Repeat(api.Pred{has("a")}, 7), make(api.Pred, 1<<16),
	}
}

func TestNames(t *testing.T) {
	sixteen, forty := strings.Repeat("a", 16), strings.Repeat("a", 40)
	for _, x := range []struct {
		p    api.Pred
		want []string
	}{
		{nil, nil}, {api.Pred{}, nil}, {api.Pred{has("a")}, []string{"a"}}, {api.Pred{has("b"), has("a"), has("b")}, []string{"a", "b"}},
		{api.Pred{cons("b", api.Eq, num(1)), in("a", num(1)), cons("a", api.Lt, num(9)), has("b")}, []string{"a", "b"}},
		{api.Pred{has("a"), has("A"), has("aa"), has("\xff"), has("B"), has("\x00")}, []string{"\x00", "A", "B", "a", "aa", "\xff"}},
		{api.Pred{has("a"), {}, {Name: "b", Op: 99}, has(forty), {}}, []string{"", "a", forty, "b"}},
		{api.Pred{has(sixteen), has("é"), has("z")}, []string{sixteen, "z", "é"}},
		{make(api.Pred, 1000), []string{""}},
	} {
		if got := Names(x.p); !slices.Equal(got, x.want) {
			t.Errorf("%.200v: %q, not %q", x.p, got, x.want)
		}
	}
	p := api.Pred{has("b"), has("a"), has("b")}
	if Names(p)[0] = "x"; p[0].Name != "b" || p[1].Name != "a" || p[2].Name != "b" || Names(p)[0] != "a" {
		t.Error("the predicate was changed")
	}
}

func TestAsked(t *testing.T) {
	p := api.Pred{cons("a", api.Ge, num(5)), cons("b", api.Prefix, word("x")), cons("a", api.Lt, num(9)), has("c"), in("a", num(4), num(6), word("x")), has("b")}
	for _, x := range []struct {
		name string
		want Region
	}{
		{"a", only(num(6))}, {"b", part(api.Prefix, word("x"))}, {"c", All()}, {"d", All()}, {"", All()}, {"A", All()}, {strings.Repeat("a", 99), All()},
	} {
		r, err := Asked(p, x.name)
		if err != api.OK || !r.Within(x.want) || !x.want.Within(r) {
			t.Errorf("%q: %v, %d", x.name, r, err)
		}
	}
	for _, p := range []api.Pred{{cons("a", api.Eq, num(1)), cons("a", api.Eq, num(2))}, {cons("a", api.Has, api.Value{}), cons("a", api.Lt, truth(false))}, {cons("a", api.Le, num(1)), cons("a", api.Le, word("1"))}} {
		if r, err := Asked(p, "a"); err != api.OK || !r.Empty() {
			t.Errorf("%v: %v, %d", p, r, err)
		}
	}
	if r, err := Asked(nil, "a"); err != api.OK || !All().Within(r) {
		t.Errorf("%v, %d", r, err)
	}
	for _, p := range wrong() {
		for _, name := range []string{"a", "b", ""} {
			if r, err := Asked(p, name); err != api.ErrMalformed || !r.Empty() {
				t.Errorf("%.200v: %v, %d", p, r, err)
			}
		}
	}
}

// TestAskedOfAny holds what is asked of a name against each constraint of it.
func TestAskedOfAny(t *testing.T) {
	d, values, full := newDice(2, owns()), sample(), 0
	for range 2000 {
		p := d.pred(6, "a", "b")
		for _, name := range []string{"a", "b", "c"} {
			r, err := Asked(p, name)
			if err != api.OK || r.Empty() == slices.ContainsFunc(values, r.Has) {
				t.Fatalf("%v, %s: %v, %d", p, name, r, err)
			}
			for _, v := range values {
				if r.Has(v) != askedFor(p, name, v) {
					t.Fatalf("%v, %s, %#v: %v", p, name, v, r.Has(v))
				}
			}
			if !r.Empty() {
				full++
			}
		}
	}
	if full < 2000 || full > 5900 {
		t.Error("too few, or too many, ask for anything:", full)
	}
}

// askedFor tells whether each constraint of that name holds of v.
func askedFor(p api.Pred, name string, v api.Value) bool {
	return !slices.ContainsFunc(p, func(c api.Constraint) bool { return c.Name == name && !pred.Holds(c, v) })
}

// pred answers a predicate of at most that many constraints.
func (d dice) pred(most int, names ...string) api.Pred {
	var p api.Pred
	for range d.Intn(most + 1) {
		p = append(p, d.cons(names...))
	}
	return p
}

func of(l ...api.Constraint) api.Pred { return l }

// cases answers pairs of predicates, laid out by hand, and the text of the event that shows that p does not cover q; none, if it does.
func cases() []struct {
	p, q  api.Pred
	event string
} {
	a := func(op int, v api.Value) api.Constraint { return cons("a", op, v) }
	s := func(op int, v string) api.Constraint { return cons("s", op, word(v)) }
	nothing := of(a(api.Eq, num(1)), a(api.Eq, num(2)))
	return []struct {
		p, q  api.Pred
		event string
	}{
		{of(a(api.Gt, num(5))), of(a(api.Gt, num(7))), ""},
		{of(a(api.Gt, num(7))), of(a(api.Gt, num(5))), `"" a=6`},
		{of(a(api.Gt, num(5))), of(in("a", num(6), num(8))), ""},
		{of(in("a", num(6), num(8))), of(a(api.Gt, num(5))), `"" a=7`},
		{of(has("a")), of(cons("b", api.Eq, num(1))), `"" b=1`},
		{of(s(api.Prefix, "ab")), of(s(api.Ge, "ab"), s(api.Lt, "ac")), ""},
		{of(s(api.Ge, "ab")), of(s(api.Prefix, "ab")), ""},
		{of(s(api.Prefix, "ab")), of(s(api.Ge, "ab")), `"" s="ac"`},
		{of(a(api.Gt, num(9))), nothing, ""},
		{of(has("z"), cons("y", api.Lt, num(0))), nothing, ""},
		{nothing, nothing, ""},
		{nothing, nil, `""`},
		{nothing, of(has("a")), `"" a=-9223372036854775808`},
		{nothing, of(has("b")), `"" b=-9223372036854775808`},
		{of(has("b")), append(nothing, has("c")), ""},
		{nil, of(a(api.Eq, num(1))), ""},
		{nil, nil, ""},
		{nil, nothing, ""},
		{of(has("a")), nil, `""`},
		{of(has("b")), of(has("a")), `"" a=-9223372036854775808`},
		{of(has("a")), of(a(api.Ne, truth(true))), ""},
		{of(a(api.Ge, truth(false))), of(has("a")), `"" a=-9223372036854775808`},
		{of(a(api.Ge, truth(false))), of(in("a", truth(true), word(""))), `"" a=""`},
		{of(a(api.Ne, truth(false))), of(a(api.Ge, truth(false))), `"" a=false`},
		{of(a(api.Eq, truth(true))), of(a(api.Ne, truth(false))), ""},
		{of(a(api.Eq, truth(true))), of(a(api.Gt, truth(false))), ""},
		{of(a(api.Eq, num(9))), of(a(api.Gt, truth(true))), ""},
		{of(a(api.Eq, num(9))), of(a(api.Lt, truth(false))), ""},
		{of(a(api.Le, num(greatest))), of(a(api.Ge, num(least))), ""},
		{of(a(api.Lt, num(greatest))), of(a(api.Ge, num(least))), `"" a=9223372036854775807`},
		{of(a(api.Gt, num(least))), of(a(api.Le, num(greatest))), `"" a=-9223372036854775808`},
		{of(a(api.Eq, num(5))), of(a(api.Gt, num(greatest))), ""},
		{of(a(api.Eq, num(5))), of(a(api.Lt, num(least))), ""},
		{of(a(api.Ge, num(6))), of(a(api.Gt, num(5))), ""},
		{of(in("a", num(1), num(2))), of(a(api.Ge, num(1)), a(api.Le, num(2))), ""},
		{of(in("a", num(1), num(3))), of(a(api.Ge, num(1)), a(api.Le, num(3))), `"" a=2`},
		{of(in("a", num(1), num(3))), of(a(api.Ge, num(1)), a(api.Le, num(3)), a(api.Ne, num(2))), ""},
		{of(a(api.Ne, num(5))), of(a(api.Eq, word("x"))), `"" a="x"`},
		{of(a(api.Ne, num(5))), of(in("a", truth(true), num(4), word("x"))), `"" a="x"`},
		{of(in("a", num(1), word("x"), truth(true))), of(in("a", truth(true), num(1))), ""},
		{of(in("a", num(1), word("x"), truth(true))), of(in("a", truth(false), truth(true), num(1))), `"" a=false`},
		{of(s(api.Ge, "")), of(s(api.Prefix, "")), ""},
		{of(s(api.Prefix, "")), of(s(api.Le, "x")), ""},
		{of(s(api.Prefix, "")), of(has("s")), `"" s=-9223372036854775808`},
		{of(s(api.Prefix, "\xff\xff")), of(s(api.Ge, "\xff\xff")), ""},
		{of(s(api.Prefix, "\xff\xff")), of(s(api.Ge, "\xff")), `"" s="\xff"`},
		{of(s(api.Prefix, "a\xff")), of(s(api.Ge, "a\xff"), s(api.Lt, "b")), ""},
		{of(s(api.Lt, "x\x00")), of(s(api.Le, "x")), ""},
		{of(s(api.Lt, "x")), of(s(api.Lt, "x\x00")), `"" s="x"`},
		{of(s(api.Eq, "q")), of(s(api.Gt, "x"), s(api.Lt, "x\x00")), ""},
		{of(s(api.Eq, "q")), of(s(api.Lt, "")), ""},
		{of(s(api.Eq, "")), of(s(api.Lt, "\x00")), ""},
		{of(s(api.Eq, "")), of(s(api.Le, "\x00")), `"" s="\x00"`},
		{of(s(api.Prefix, "abc")), of(s(api.Prefix, "ab")), `"" s="ab"`},
		{of(s(api.Prefix, "ab")), of(s(api.Prefix, "abc"), s(api.Ne, "abc")), ""},
		{of(s(api.Prefix, "ab")), of(s(api.Eq, "ab")), ""},
		{of(a(api.Gt, num(1)), cons("b", api.Gt, num(1))), of(cons("b", api.Gt, num(0)), a(api.Gt, num(0))), `"" a=1 b=1`},
		{of(a(api.Gt, num(1)), cons("b", api.Gt, num(1))), of(cons("b", api.Gt, num(0)), a(api.Gt, num(2))), `"" a=3 b=1`},
		{of(a(api.Gt, num(1)), cons("b", api.Gt, num(1)), cons("c", api.Gt, num(1))), of(cons("c", api.Ge, num(1)), cons("b", api.Gt, num(0)), a(api.Gt, num(2)), has("d")), `"" a=3 b=1 c=1 d=-9223372036854775808`},
		{of(has("z"), cons("b", api.Gt, num(5))), of(cons("b", api.Gt, num(0)), a(api.Eq, word("x"))), `"" a="x" b=1`},
		{of(has("0"), cons("b", api.Gt, num(0))), of(cons("b", api.Gt, num(5)), a(api.Eq, word("x"))), `"" a="x" b=6`},
		{of(has("b")), of(has("b"), a(api.Eq, num(1))), ""},
		{of(has("b"), a(api.Eq, num(1))), of(has("b")), `"" b=-9223372036854775808`},
	}
}

func TestCoversAndCounter(t *testing.T) {
	for _, x := range cases() {
		if got := Covers(x.p, x.q); got != (x.event == "") {
			t.Errorf("%v, %v: covers %v", x.p, x.q, got)
		}
		e, is := Counter(x.p, x.q)
		text, _ := event.Text(e)
		if is != (x.event != "") || is && text != x.event || !is && !event.Same(e, api.Event{}) {
			t.Errorf("%v, %v: %v, %v, not %s", x.p, x.q, e, is, x.event)
		}
		if is && (pred.Matches(x.p, e) || !pred.Matches(x.q, e)) {
			t.Errorf("%v, %v: %v shows nothing", x.p, x.q, e)
		}
	}
}

// TestLongTexts: texts that are longer than a value may have tell predicates apart, too.
func TestLongTexts(t *testing.T) {
	z, ff := strings.Repeat("z", 32), strings.Repeat("\xff", 32)
	for _, x := range []struct {
		p, q api.Pred
		want string
	}{
		{of(cons("a", api.Eq, word("b"))), of(cons("a", api.Gt, word(z)), cons("a", api.Prefix, word(z))), z + "\x00"},
		{of(cons("a", api.Le, word(z))), of(cons("a", api.Prefix, word(z))), z + "\x00"},
		{of(cons("a", api.Eq, word(z))), of(cons("a", api.Prefix, word(z))), z + "\x00"},
		{of(cons("a", api.Eq, word(ff))), of(cons("a", api.Ge, word(ff))), ff + "\x00"},
		{of(cons("a", api.Le, word(ff))), of(cons("a", api.Ge, word(""))), ff + "\x00"},
	} {
		e, is := Counter(x.p, x.q)
		if Covers(x.p, x.q) || !is || e.Key != "" || len(e.Attrs) != 1 || e.Attrs[0] != (api.Attr{Name: "a", Value: word(x.want)}) {
			t.Errorf("%v, %v: %v, %v", x.p, x.q, e, is)
		}
	}
	if !Covers(of(cons("a", api.Prefix, word(ff))), of(cons("a", api.Gt, word(ff)))) {
		t.Error("no text without these bytes is behind them")
	}
}

// TestNamesThatAreNone: what is no event's name is asked for like any other.
func TestNamesThatAreNone(t *testing.T) {
	strange := "A b\xff"
	if Covers(of(has("b")), of(has(strange))) || !Covers(nil, of(has(strange))) || !Covers(of(has(strange)), of(cons(strange, api.Eq, num(1)))) {
		t.Error("Covers")
	}
	e, is := Counter(of(has("b")), of(cons(strange, api.Gt, num(1)), has("a")))
	if !is || !event.Same(e, api.Event{Attrs: []api.Attr{{Name: strange, Value: num(2)}, {Name: "a", Value: num(least)}}}) {
		t.Errorf("%v, %v", e, is)
	}
}

func TestWhatMayNotBe(t *testing.T) {
	fine := []api.Pred{nil, {has("a")}, {cons("a", api.Eq, num(1)), cons("a", api.Eq, num(2))}}
	for _, p := range wrong() {
		for _, q := range append(fine, p) {
			if Covers(p, q) || Covers(q, p) {
				t.Errorf("%.200v, %v: covers", p, q)
			}
			for _, x := range [][2]api.Pred{{p, q}, {q, p}} {
				if e, is := Counter(x[0], x[1]); is || !event.Same(e, api.Event{}) {
					t.Errorf("%.200v, %.200v: %v", x[0], x[1], e)
				}
			}
		}
	}
	allCons(func(c api.Constraint) {
		may := pred.MayCons(c)
		if Covers(of(c), of(c)) != may || Covers(nil, of(c)) != may || Covers(of(c), of(has("a"), c)) != may {
			t.Fatalf("%#v: covers %v", c, !may)
		}
		if _, is := Counter(of(c), of(has("b"))); is != may {
			t.Fatalf("%#v: counter %v", c, is)
		}
		if r, err := Asked(of(c, has("b")), "b"); (err == api.OK) != may || r.Empty() == may {
			t.Fatalf("%#v: asks %v, %d", c, r, err)
		}
	})
}

// few answers some values, so that predicates of them are often near each other.
func few() []api.Value {
	return []api.Value{num(0), num(1), num(2), word(""), word("x"), word("xy"), truth(false), truth(true)}
}

// fewShown answers, in order, values that show all that constraints with values of few tell apart.
func fewShown() []api.Value {
	l := []api.Value{num(least), num(-1), num(0), num(1), num(2), num(3)}
	for _, s := range []string{"", "\x00", "x", "x\x00", "xy", "xy\x00", "xz", "y"} {
		l = append(l, word(s))
	}
	return append(l, truth(false), truth(true), api.Value{})
}

// events answers all events of these names, with values of fewShown, or without some of them.
func events(names ...string) []api.Event {
	l := []api.Event{{}}
	for _, name := range names {
		for _, e := range l {
			for _, v := range fewShown() {
				l = append(l, api.Event{Attrs: append(slices.Clone(e.Attrs), api.Attr{Name: name, Value: v})})
			}
		}
	}
	return l
}

// TestExact holds Covers against all events of two names; and who covers one that covers a third one must cover that.
func TestExact(t *testing.T) {
	d, all := newDice(3, few()), events("a", "b")
	preds := []api.Pred{nil, {has("a")}, {has("b")}, {has("b"), has("a")}}
	for len(preds) < 300 {
		preds = append(preds, d.pred(4, "a", "b"))
	}
	matched := make([][]bool, len(preds))
	for i, p := range preds {
		for _, e := range all {
			matched[i] = append(matched[i], pred.Matches(p, e))
		}
	}
	covers := make([][]bool, len(preds))
	yes := 0
	for i, p := range preds {
		for j, q := range preds {
			shown := false
			for n := range all {
				shown = shown || matched[j][n] && !matched[i][n]
			}
			covers[i] = append(covers[i], Covers(p, q))
			if covers[i][j] == shown {
				t.Fatalf("%v, %v: covers %v", p, q, covers[i][j])
			}
			if covers[i][j] && slices.Contains(matched[j], true) && slices.Contains(matched[i], false) {
				yes++
			}
		}
	}
	if yes < 1000 {
		t.Error("too few cover others:", yes)
	}
	for i := range preds {
		if !covers[i][i] {
			t.Fatalf("%v does not cover itself", preds[i])
		}
		for j := range preds {
			for k := range preds {
				if covers[i][j] && covers[j][k] && !covers[i][k] {
					t.Fatalf("%v, %v, %v", preds[i], preds[j], preds[k])
				}
			}
		}
	}
}

// TestExactOfThreeNames holds Covers against all events of three names, of predicates that have some constraints in common.
func TestExactOfThreeNames(t *testing.T) {
	d, all := newDice(4, few()), events("a", "b", "c")
	yes := 0
	for range 400 {
		p := d.pred(3, "a", "b", "c")
		q := append(d.pred(3, "a", "b", "c"), p[:d.Intn(len(p)+1)]...)
		shown := slices.ContainsFunc(all, func(e api.Event) bool { return pred.Matches(q, e) && !pred.Matches(p, e) })
		if Covers(p, q) == shown {
			t.Fatalf("%v, %v: covers %v", p, q, shown)
		}
		if !shown {
			yes++
		}
	}
	if yes < 50 || yes > 350 {
		t.Error("too few, or too many, cover others:", yes)
	}
}

// shownBy answers the event that Counter should show, by the words of the chapter: each value is asked of each constraint; none, if p covers q.
func shownBy(p, q api.Pred, values []api.Value) (api.Event, bool) {
	var e api.Event
	without, beyond := false, false
	for _, name := range Names(p) {
		without = without || !slices.Contains(Names(q), name)
	}
	for _, name := range Names(q) {
		i := slices.IndexFunc(values, func(v api.Value) bool { return askedFor(q, name, v) })
		if i < 0 {
			return api.Event{}, false
		}
		more := slices.IndexFunc(values, func(v api.Value) bool { return askedFor(q, name, v) && !askedFor(p, name, v) })
		if !beyond && more >= 0 {
			i, beyond = more, true
		}
		e.Attrs = append(e.Attrs, api.Attr{Name: name, Value: values[i]})
	}
	if !without && !beyond {
		return api.Event{}, false
	}
	return e, true
}

func TestCounterOfAny(t *testing.T) {
	for _, x := range []struct {
		dice
		values []api.Value
	}{{newDice(5, few()), fewShown()}, {newDice(6, owns()), sample()}} {
		shown, covered := 0, 0
		for range 4000 {
			p := x.pred(3, "a", "b", "c")
			q := append(x.pred(3, "a", "b", "c"), p[:x.Intn(len(p)+1)]...)
			e, is := Counter(p, q)
			want, should := shownBy(p, q, x.values)
			if is != should || is == Covers(p, q) || !event.Same(e, want) {
				t.Fatalf("%v, %v: %v, %v, not %v", p, q, e, is, want)
			}
			if !is {
				covered++
				continue
			}
			shown++
			if !pred.Matches(q, e) || pred.Matches(p, e) || e.Key != "" {
				t.Fatalf("%v, %v: %v shows nothing", p, q, e)
			}
		}
		if shown < 500 || covered < 500 {
			t.Error("too few are shown, or covered:", shown, covered)
		}
	}
}

// TestMoreConstraints: fewer constraints cover more of them, in whatever order, and a predicate and its normal form cover each other.
func TestMoreConstraints(t *testing.T) {
	d := newDice(7, owns())
	for range 3000 {
		q := d.pred(6, "a", "b", "c")
		mixed := slices.Clone(q)
		d.Shuffle(len(mixed), func(i, j int) { mixed[i], mixed[j] = mixed[j], mixed[i] })
		normal, _ := pred.Normal(q)
		for _, p := range []api.Pred{nil, q, mixed, mixed[:len(mixed)/2], normal} {
			if !Covers(p, q) {
				t.Fatalf("%v, %v", p, q)
			}
		}
		if !Covers(q, mixed) || !Covers(q, normal) || !Covers(normal, mixed) {
			t.Fatalf("%v, %v, %v", q, mixed, normal)
		}
	}
}

// TestNothingIsKept: what is handed in is only read, and what is answered is new.
func TestNothingIsKept(t *testing.T) {
	set := []api.Value{num(8), num(6)}
	given := func() (p, q api.Pred) {
		return of(cons("b", api.Gt, num(7)), in("a", num(8), num(6))), of(has("b"), in("a", set...), cons("a", api.Gt, num(5)))
	}
	p, q := given()
	asks, _ := Asked(q, "a")
	e, _ := Counter(p, q)
	Covers(p, q)
	Names(q)
	first, second := given()
	if !pred.Same(p, first) || !pred.Same(q, second) {
		t.Errorf("%v, %v", p, q)
	}
	want := api.Event{Attrs: []api.Attr{{Name: "a", Value: num(6)}, {Name: "b", Value: num(least)}}}
	set[0], set[1], q[1].Name = num(1), num(2), "c"
	if !event.Same(e, want) || !asks.Has(num(8)) || !asks.Has(num(6)) || asks.Has(num(1)) {
		t.Errorf("%v, %v", e, asks)
	}
	e.Attrs[0].Value = num(0)
	set[0], set[1], q[1].Name = num(8), num(6), "a"
	if e, is := Counter(p, q); !is || !event.Same(e, want) {
		t.Errorf("%v, %v", e, is)
	}
}

// TestShownIsInOrder: the values that the tests look through show the least one first.
func TestShownIsInOrder(t *testing.T) {
	for _, l := range [][]api.Value{fewShown(), sample()[:len(sample())-len(odd())]} {
		for i := 1; i < len(l); i++ {
			if l[i].Kind != 0 && value.Compare(l[i-1], l[i]) != -1 {
				t.Fatalf("%#v, %#v", l[i-1], l[i])
			}
		}
	}
}
