package codec

import (
	"bytes"
	"encoding/binary"
	"math"
	"math/rand"
	"slices"
	"strings"
	"testing"

	"pneumatic/api"
	"pneumatic/event"
	"pneumatic/pred"
	"pneumatic/value"
)

func num(n int64) api.Value   { return value.Number(n) }
func word(s string) api.Value { return value.Word(s) }
func truth(b bool) api.Value  { return value.Truth(b) }

func attr(name string, v api.Value) api.Attr { return api.Attr{Name: name, Value: v} }

func of(key string, attrs ...api.Attr) api.Event { return api.Event{Key: key, Attrs: attrs} }

func has(name string) api.Constraint { return api.Constraint{Name: name, Op: api.Has} }

func cons(name string, op int, v api.Value) api.Constraint {
	return api.Constraint{Name: name, Op: op, Value: v}
}

func in(name string, set ...api.Value) api.Constraint {
	return api.Constraint{Name: name, Op: api.In, Set: set}
}

func item(n uint64) api.Item { return api.Item{N: n} }

func gap(from, to uint64) api.Gap { return api.Gap{From: from, To: to} }

// long answers a text of n bytes.
func long(n int) string { return strings.Repeat("z", n) }

// sample is the chapter's event.
func sample() api.Event {
	return of("k", attr("a", num(-1)), attr("b", word("x")), attr("c", truth(true)))
}

// full answers the event whose form has the most bytes.
func full() api.Event {
	e := of(strings.Repeat("\xff", api.MaxKey))
	for i := range api.MaxAttrs {
		e.Attrs = append(e.Attrs, attr(strings.Repeat(string(rune('a'+i)), api.MaxName), word(strings.Repeat("\xff", api.MaxStr))))
	}
	return e
}

// fullPred answers a predicate of the most constraints, of the longest names and of the most and longest values.
func fullPred() api.Pred {
	var p api.Pred
	for i := range api.MaxCons {
		p = append(p, in(strings.Repeat(string(rune('\x7f'-i)), api.MaxName), slices.Repeat([]api.Value{word(long(api.MaxStr))}, api.MaxSet)...))
	}
	return p
}

// fullPage answers a page of the most items and gaps, of the greatest numbers.
func fullPage() api.Page {
	p := api.Page{From: greatest - 40, End: greatest}
	for i := range uint64(api.MaxPage) {
		p.Items = append(p.Items, api.Item{N: greatest - 40 + i, Time: api.MaxTime, Event: full()})
	}
	for i := range uint64(api.MaxScan) {
		p.Gaps = append(p.Gaps, gap(greatest-32+2*i, greatest-32+2*i+i%2))
	}
	return p
}

// sort is one of the four sorts of things, handled without its type.
type sort struct {
	name string
	may  func(x any) bool
	put  func(x any) ([]byte, api.Errno)
	take func(b []byte) (any, api.Errno)
	none any // what stands beside an error
}

func sortOf[T any](name string, may func(T) bool, put func(T) ([]byte, api.Errno), take func([]byte) (T, api.Errno)) sort {
	var none T
	return sort{
		name: name,
		may:  func(x any) bool { return may(x.(T)) },
		put:  func(x any) ([]byte, api.Errno) { return put(x.(T)) },
		take: func(b []byte) (any, api.Errno) { x, err := take(b); return any(x), err },
		none: none,
	}
}

func events() sort { return sortOf("event", event.May, PutEvent, TakeEvent) }
func preds() sort  { return sortOf("pred", pred.May, PutPred, TakePred) }
func items() sort  { return sortOf("item", MayItem, PutItem, TakeItem) }
func pages() sort  { return sortOf("page", MayPage, PutPage, TakePage) }

func sorts() []sort { return []sort{events(), preds(), items(), pages()} }

// well answers things of a sort that may be, no two of them the same: nothing, the greatest, the least and what lies between.
func (s sort) well() []any {
	switch s.name {
	case "event":
		return anys(wellEvents())
	case "pred":
		return anys(wellPreds())
	case "item":
		return anys(wellItems())
	}
	return anys(wellPages())
}

func anys[T any](l []T) []any {
	var all []any
	for _, x := range l {
		all = append(all, x)
	}
	return all
}

func wellEvents() []api.Event {
	l := []api.Event{
		of(""), of("k"), of("\x00"), of(long(16)), sample(), full(),
		of("", attr("c", truth(false))), of("", attr("c", truth(true))), of("", attr("-", num(0)), attr(".", num(0)), attr("0", num(0)), attr("_", num(0)), attr("a", num(0))),
		of("", attr("a", word(""))), of("", attr("a", word("\x00"))), of("", attr("a", word("\xff\x80"))), of("", attr("a", word(long(32)))),
		of("", attr(long(16), num(1))), of("a", attr("a", word("a"))), of("", attr("a", num(1)), attr("a-", num(1)), attr("aa", num(1))),
	}
	for _, n := range []int64{0, 1, -1, 63, 64, -64, -65, 300, 1<<20 - 1, math.MaxInt64, math.MinInt64, math.MaxInt64 - 1, math.MinInt64 + 1} {
		l = append(l, of("", attr("a", num(n))))
	}
	for n := 1; n < api.MaxAttrs; n++ {
		l = append(l, of(long(n), full().Attrs[:n]...))
	}
	return l
}

func wellPreds() []api.Pred {
	l := []api.Pred{
		nil, {has("a")}, {has("a"), has("a")}, {has("b"), has("a")}, {has("a"), has("b")}, {has("A b=\x00\xff")}, {has(long(16))}, fullPred(),
		{has("a"), cons("b", api.Prefix, word("x")), in("c", num(300), truth(false))},
		{cons("b", api.Prefix, word(""))}, {cons("b", api.Prefix, word(long(32)))},
		{in("a", num(1))}, {in("a", word(""))}, {in("a", num(2), num(1))}, {in("a", num(1), num(2))}, {in("a", num(1), num(1))}, {in("a", truth(true), word("x"), num(math.MinInt64), num(math.MaxInt64), word(long(32)), truth(false))},
		{in("a", num(1)), in("a", num(1))}, slices.Repeat(api.Pred{has("a")}, 6),
	}
	for op := api.Eq; op <= api.Ge; op++ {
		for _, v := range []api.Value{num(0), num(-1), num(math.MinInt64), num(math.MaxInt64), word(""), word("x"), truth(false), truth(true)} {
			l = append(l, api.Pred{cons("a", op, v)})
		}
	}
	return l
}

func wellItems() []api.Item {
	l := []api.Item{
		item(1), item(2), item(127), item(128), item(api.MaxNumber), {N: 1, Time: 1}, {N: 1, Time: 127}, {N: 1, Time: 128}, {N: 1, Time: api.MaxTime},
		{N: api.MaxNumber, Time: api.MaxTime, Event: full()}, {N: api.MaxNumber - 1, Time: api.MaxTime - 1},
	}
	for i, e := range wellEvents() {
		l = append(l, api.Item{N: 300 + uint64(i), Time: uint64(i), Event: e})
	}
	return l
}

func wellPages() []api.Page {
	full, some := fullPage(), api.Page{From: 2, End: 9, Items: []api.Item{{N: 2, Time: 200, Event: sample()}, {N: 6}}, Gaps: []api.Gap{gap(3, 5), gap(8, 8)}, Last: true}
	l := []api.Page{
		{From: 1, End: 1}, {From: 1, End: 1, Last: true}, {From: 1, End: 2}, {From: 3, End: 5, Last: true}, {From: greatest, End: greatest}, {From: 1, End: greatest}, {From: 127, End: 128}, some, full,
		{From: 1, End: 2, Items: []api.Item{item(1)}}, {From: 1, End: 3, Items: []api.Item{item(2)}}, {From: 5, End: 9, Items: []api.Item{item(5), item(6), item(7), item(8)}},
		{From: 1, End: greatest, Items: []api.Item{item(api.MaxNumber)}}, {From: 1, End: 9, Items: []api.Item{{N: 3, Time: 9}, {N: 4, Time: 2}}},
		{From: 1, End: 2, Gaps: []api.Gap{gap(1, 1)}}, {From: 1, End: greatest, Gaps: []api.Gap{gap(1, api.MaxNumber)}}, {From: api.MaxNumber, End: greatest, Gaps: []api.Gap{gap(api.MaxNumber, api.MaxNumber)}},
		{From: 1, End: 9, Gaps: []api.Gap{gap(1, 2), gap(3, 8)}}, {From: 1, End: 9, Gaps: []api.Gap{gap(1, 8)}}, {From: 1, End: 9, Gaps: []api.Gap{gap(2, 3), gap(6, 7)}},
		{From: 1, End: 9, Items: []api.Item{item(1), item(5)}, Gaps: []api.Gap{gap(2, 4), gap(6, 8)}}, {From: 1, End: 9, Items: []api.Item{item(4), item(8)}, Gaps: []api.Gap{gap(1, 3), gap(5, 7)}},
	}
	for n := range api.MaxPage {
		l = append(l, api.Page{From: full.From, End: full.End, Items: full.Items[:n], Gaps: full.Gaps})
	}
	for n := range api.MaxScan {
		l = append(l, api.Page{From: full.From, End: full.End, Items: full.Items, Gaps: full.Gaps[:n], Last: n%2 == 0})
	}
	return l
}

// oddValues answers values that may not be.
func oddValues() []api.Value {
	return []api.Value{
		{}, {Num: 1}, {Kind: 4}, {Kind: -1}, {Kind: 257}, {Kind: math.MinInt}, word(long(33)),
		{Kind: api.Int, Str: "x"}, {Kind: api.Int, Bool: true}, {Kind: api.Str, Num: 1}, {Kind: api.Str, Bool: true}, {Kind: api.Bool, Num: 1}, {Kind: api.Bool, Str: "x"},
	}
}

// ill answers things of a sort that may not be.
func (s sort) ill() []any {
	switch s.name {
	case "event":
		return anys(illEvents())
	case "pred":
		return anys(illPreds())
	case "item":
		return anys(illItems())
	}
	return anys(illPages())
}

func illEvents() []api.Event {
	e := full()
	l := []api.Event{
		of(long(17)), of("", append(e.Attrs, attr("i", num(1)))...), of("", attr("", num(1))), of("", attr("A", num(1))), of("", attr("a b", num(1))), of("", attr(long(17), num(1))),
		of("", attr("b", num(1)), attr("a", num(1))), of("", attr("a", num(1)), attr("a", num(1))), of("", attr("a", num(1)), attr("a", num(2))), of("", attr("aa", num(1)), attr("a", num(2))), {Attrs: []api.Attr{{}}},
		{Attrs: make([]api.Attr, 1<<16)}, of(long(1 << 16)),
	}
	for _, v := range oddValues() {
		l = append(l, of("", attr("a", v)), of("k", attr("a", num(1)), attr("b", v)))
	}
	return l
}

func illPreds() []api.Pred {
	l := []api.Pred{
		slices.Repeat(api.Pred{has("a")}, 7), {has("")}, {has(long(17))}, {{}}, {{Name: "a"}}, {cons("a", 10, num(1))}, {cons("a", -1, num(1))}, {cons("a", 256+api.Eq, num(1))}, {has("a"), {Name: "a", Op: math.MaxInt}},
		{cons("a", api.Has, num(1))}, {{Name: "a", Op: api.Has, Set: []api.Value{num(1)}}}, {{Name: "a", Op: api.Eq, Value: num(1), Set: []api.Value{num(1)}}},
		{cons("a", api.Prefix, num(1))}, {cons("a", api.Prefix, truth(true))}, {in("a")}, {in("a", slices.Repeat([]api.Value{num(1)}, 7)...)}, {{Name: "a", Op: api.In, Value: num(1), Set: []api.Value{num(1)}}},
		make(api.Pred, 1<<16),
	}
	for _, v := range oddValues() {
		l = append(l, api.Pred{cons("a", api.Eq, v)}, api.Pred{has("b"), cons("a", api.Ge, v)}, api.Pred{cons("a", api.Prefix, v)}, api.Pred{in("a", v)}, api.Pred{in("a", num(1), v, num(2))})
	}
	return l
}

func illItems() []api.Item {
	l := []api.Item{
		{}, item(api.MaxNumber + 1), item(math.MaxUint64), {N: 1, Time: api.MaxTime + 1}, {N: 1, Time: math.MaxUint64}, {Time: 5, Event: sample()},
	}
	for _, e := range illEvents() {
		l = append(l, api.Item{N: 1, Time: 1, Event: e})
	}
	return l
}

func illPages() []api.Page {
	l := []api.Page{
		{}, {From: 0, End: 5}, {From: 1}, {From: 3, End: 2}, {From: greatest, End: greatest - 1}, {From: greatest, End: greatest + 1}, {From: greatest + 1, End: greatest + 1}, {From: 1, End: math.MaxUint64}, {From: math.MaxUint64, End: math.MaxUint64},
		{From: 1, End: 1, Items: []api.Item{item(1)}}, {From: 2, End: 9, Items: []api.Item{item(1)}}, {From: 2, End: 9, Items: []api.Item{item(9)}}, {From: 2, End: 9, Items: []api.Item{item(0)}}, {From: 2, End: greatest, Items: []api.Item{item(greatest)}},
		{From: 2, End: 9, Items: []api.Item{item(3), item(3)}}, {From: 2, End: 9, Items: []api.Item{item(4), item(3)}}, {From: 2, End: 9, Items: []api.Item{item(3), item(5), item(4)}}, {From: 2, End: 9, Items: []api.Item{{N: 3, Time: api.MaxTime + 1}}},
		{From: 2, End: 9, Items: []api.Item{item(2), item(3), item(4), item(5), item(6)}}, {From: 2, End: 9, Items: make([]api.Item, 1<<16)},
		{From: 2, End: 9, Gaps: []api.Gap{{}}}, {From: 2, End: 9, Gaps: []api.Gap{gap(1, 2)}}, {From: 2, End: 9, Gaps: []api.Gap{gap(8, 9)}}, {From: 2, End: 9, Gaps: []api.Gap{gap(4, 3)}}, {From: 2, End: 9, Gaps: []api.Gap{gap(9, 8)}}, {From: 2, End: 2, Gaps: []api.Gap{gap(2, 1)}},
		{From: 2, End: 9, Gaps: []api.Gap{gap(4, 4), gap(4, 4)}}, {From: 2, End: 9, Gaps: []api.Gap{gap(4, 4), gap(3, 3)}}, {From: 2, End: 9, Gaps: []api.Gap{gap(3, 5), gap(5, 6)}}, {From: 2, End: 9, Gaps: []api.Gap{gap(3, 5), gap(4, 4)}}, {From: 2, End: 9, Gaps: []api.Gap{gap(3, 3), gap(7, 7), gap(5, 5)}},
		{From: 2, End: 9, Gaps: []api.Gap{gap(3, math.MaxUint64)}}, {From: 2, End: 9, Gaps: []api.Gap{gap(3, math.MaxUint64), gap(0, 4)}}, {From: 2, End: greatest, Gaps: []api.Gap{gap(3, greatest)}},
		{From: 2, End: 9, Gaps: make([]api.Gap, 1<<16)},
		{From: 2, End: 9, Items: []api.Item{item(4)}, Gaps: []api.Gap{gap(4, 4)}}, {From: 2, End: 9, Items: []api.Item{item(4)}, Gaps: []api.Gap{gap(3, 5)}}, {From: 2, End: 9, Items: []api.Item{item(3), item(8)}, Gaps: []api.Gap{gap(4, 5), gap(7, 8)}}, {From: 2, End: 9, Items: []api.Item{item(4)}, Gaps: []api.Gap{gap(4, 8)}}, {From: 2, End: 9, Items: []api.Item{item(8)}, Gaps: []api.Gap{gap(2, 8)}},
	}
	many := api.Page{From: 1, End: 100}
	for n := range uint64(api.MaxScan + 1) {
		many.Gaps = append(many.Gaps, gap(2*n+1, 2*n+1))
	}
	l = append(l, many)
	for _, e := range illEvents() {
		l = append(l, api.Page{From: 1, End: 3, Items: []api.Item{{N: 1}, {N: 2, Event: e}}})
	}
	return l
}

// scribe lays forms by the words of the chapters, with nothing of the program's own, and remembers where numbers end.
type scribe struct {
	b    []byte
	ends []int
}

func (s *scribe) number(n uint64) {
	s.b = binary.AppendUvarint(s.b, n)
	s.ends = append(s.ends, len(s.b))
}

func (s *scribe) bytes(t string) {
	s.number(uint64(len(t)))
	s.b = append(s.b, t...)
}

func (s *scribe) value(v api.Value) {
	s.number(uint64(v.Kind))
	switch {
	case v.Kind == api.Str:
		s.bytes(v.Str)
	case v.Bool:
		s.number(1)
	case v.Kind == api.Bool:
		s.number(0)
	default:
		s.b = binary.AppendVarint(s.b, v.Num)
		s.ends = append(s.ends, len(s.b))
	}
}

// lay lays any of the things that have forms.
func (s *scribe) lay(x any) {
	switch x := x.(type) {
	case api.Event:
		s.bytes(x.Key)
		s.number(uint64(len(x.Attrs)))
		for _, a := range x.Attrs {
			s.bytes(a.Name)
			s.value(a.Value)
		}
	case api.Pred:
		s.number(uint64(len(x)))
		for _, c := range x {
			s.constraint(c)
		}
	case api.Item:
		s.number(x.N)
		s.number(x.Time)
		s.lay(x.Event)
	case api.Page:
		s.page(x)
	default:
		panic(x)
	}
}

func (s *scribe) constraint(c api.Constraint) {
	s.bytes(c.Name)
	s.number(uint64(c.Op))
	switch {
	case c.Op == api.In:
		s.number(uint64(len(c.Set)))
		for _, v := range c.Set {
			s.value(v)
		}
	case c.Op != api.Has:
		s.value(c.Value)
	}
}

func (s *scribe) page(p api.Page) {
	s.number(p.From)
	s.number(p.End)
	s.number(uint64(len(p.Items)))
	for _, x := range p.Items {
		s.lay(x)
	}
	s.number(uint64(len(p.Gaps)))
	for _, g := range p.Gaps {
		s.number(g.From)
		s.number(g.To)
	}
	s.number(map[bool]uint64{true: 1}[p.Last])
}

// form answers the form of x, by the words of the chapters.
func form(x any) []byte {
	s := &scribe{}
	s.lay(x)
	return s.b
}

// same tells whether a and b, of one sort, are the same as they stand, nil and empty lists being one.
func same(a, b any) bool {
	switch x := a.(type) {
	case api.Event:
		return sameEvents(x, b.(api.Event))
	case api.Pred:
		return slices.EqualFunc(x, b.(api.Pred), func(c, d api.Constraint) bool {
			return c.Name == d.Name && c.Op == d.Op && c.Value == d.Value && slices.Equal(c.Set, d.Set)
		})
	case api.Item:
		return sameItems(x, b.(api.Item))
	case api.Page:
		y := b.(api.Page)
		return x.From == y.From && x.End == y.End && x.Last == y.Last && slices.EqualFunc(x.Items, y.Items, sameItems) && slices.Equal(x.Gaps, y.Gaps)
	}
	panic(a)
}

func sameItems(x, y api.Item) bool {
	return x.N == y.N && x.Time == y.Time && sameEvents(x.Event, y.Event)
}

func sameEvents(x, y api.Event) bool { return x.Key == y.Key && slices.Equal(x.Attrs, y.Attrs) }

// copied answers x with lists of its own.
func copied(x any) any {
	switch x := x.(type) {
	case api.Event:
		x.Attrs = slices.Clone(x.Attrs)
		return x
	case api.Pred:
		p := slices.Clone(x)
		for i := range p {
			p[i].Set = slices.Clone(p[i].Set)
		}
		return p
	case api.Item:
		x.Event = copied(x.Event).(api.Event)
		return x
	case api.Page:
		x.Items, x.Gaps = slices.Clone(x.Items), slices.Clone(x.Gaps)
		for i := range x.Items {
			x.Items[i] = copied(x.Items[i]).(api.Item)
		}
		return x
	}
	panic(x)
}

// refused fails, if take of b is not refused in full.
func refused(t *testing.T, s sort, b []byte, why string) {
	t.Helper()
	if x, err := s.take(b); err != api.ErrForm || !same(x, s.none) {
		t.Errorf("%s: %s: %x: %v, %d", s.name, why, b, x, err)
	}
}

// sound fails, if take of b answers what may not be, or has another form.
func sound(t *testing.T, s sort, b []byte) (is bool) {
	t.Helper()
	given := bytes.Clone(b)
	x, err := s.take(b)
	switch {
	case err == api.OK && s.may(x) && bytes.Equal(form(x), given) && bytes.Equal(b, given):
		back, err := s.put(x)
		if err != api.OK || !bytes.Equal(back, given) {
			t.Fatalf("%s: %x: put again %x, %d", s.name, given, back, err)
		}
		return true
	case err == api.ErrForm && same(x, s.none) && bytes.Equal(b, given):
		return false
	}
	t.Fatalf("%s: %x: %v, %d", s.name, given, x, err)
	return false
}

// someValue answers one of many values, most of which may be.
func someValue(r *rand.Rand) api.Value {
	switch r.Intn(30) {
	case 0:
		l := oddValues()
		return l[r.Intn(len(l))]
	case 1, 2, 3, 4, 5, 6, 7, 8:
		return word(long(r.Intn(4) * r.Intn(12)))
	case 9, 10, 11, 12:
		return truth(r.Intn(2) == 0)
	case 13:
		return num([]int64{math.MinInt64, math.MaxInt64}[r.Intn(2)])
	}
	return num(r.Int63n(1<<r.Intn(63)+1) - r.Int63n(1<<r.Intn(63)+1))
}

func someEvent(r *rand.Rand) api.Event {
	e := of(long(r.Intn(18)))
	for i := range r.Intn(9) {
		e.Attrs = append(e.Attrs, attr(string(rune('a'+i))+long(r.Intn(16)), someValue(r)))
	}
	return e
}

func somePred(r *rand.Rand) api.Pred {
	var p api.Pred
	for range r.Intn(7) {
		c := api.Constraint{Name: long(1 + r.Intn(16)), Op: 1 + r.Intn(9)}
		switch c.Op {
		case api.Has:
		case api.In:
			for range 1 + r.Intn(6) {
				c.Set = append(c.Set, someValue(r))
			}
		default:
			c.Value = someValue(r)
		}
		p = append(p, c)
	}
	return p
}

func someItem(r *rand.Rand) api.Item {
	return api.Item{N: uint64(r.Int63n(1 << r.Intn(42))), Time: uint64(r.Int63n(1 << r.Intn(42))), Event: someEvent(r)}
}

func somePage(r *rand.Rand) api.Page {
	from := uint64(r.Int63n(1 << r.Intn(42)))
	p := api.Page{From: from, End: from + uint64(r.Intn(60)), Last: r.Intn(2) == 0}
	for at := from; at < p.End; {
		size := uint64(1 + r.Intn(3))
		switch r.Intn(8) {
		case 0:
			p.Items = append(p.Items, api.Item{N: at, Time: uint64(r.Intn(400)), Event: someEvent(r)})
		case 1, 2, 3:
			p.Gaps = append(p.Gaps, gap(at, at+size-1))
		}
		at += size - uint64(r.Intn(30)/29)
	}
	return p
}

// some answers any thing of the sort; it may be, or may not.
func (s sort) some(r *rand.Rand) any {
	switch s.name {
	case "event":
		return someEvent(r)
	case "pred":
		return somePred(r)
	case "item":
		return someItem(r)
	}
	return somePage(r)
}
