package cover

import (
	"math"
	"slices"

	"pneumatic/api"
	"pneumatic/value"
)

// kinds is how many Kinds have values that are told apart: Int, Str and Bool, from 1 on.
const kinds = api.Bool

// Region is a set of values (P5.1).
// The spans of a Kind rise, and none is empty: so the least value of it that is in the set is where they begin.
type Region struct {
	spans [kinds][]span // those of a Kind stand at its number less one
	odd   bool          // whether the values of no such Kind are in it
}

// span is the values of one Kind between two cuts.
type span struct{ from, to cut }

// cut is a place between the values of one Kind: right ahead of the next one, or behind all of them.
// There is no other one: behind each value but a Kind's greatest one right away another one comes, behind a text the same with a byte 00 more.
type cut struct {
	next api.Value
	last bool
}

// And answers what is in both (P5.1).
func (r Region) And(s Region) Region {
	both := Region{odd: r.odd && s.odd}
	for i := range both.spans {
		both.spans[i] = common(r.spans[i], s.spans[i])
	}
	return both
}

// Minus answers what is in r and not in s (P5.1).
func (r Region) Minus(s Region) Region { return r.And(s.rest()) }

// Empty tells whether nothing is in r (P5.1).
func (r Region) Empty() bool {
	_, is := r.Some()
	return !is
}

// Has tells whether v is in r (P5.1), whatever v is.
func (r Region) Has(v api.Value) bool {
	if v.Kind < api.Int || v.Kind > kinds {
		return r.odd
	}
	return slices.ContainsFunc(r.spans[v.Kind-1], func(s span) bool { return s.has(v) })
}

// Some answers a value of r (P5.2), and whether there is one.
func (r Region) Some() (api.Value, bool) {
	for _, l := range r.spans {
		if len(l) > 0 {
			return l[0].from.next, true
		}
	}
	return api.Value{}, r.odd
}

// Within tells whether all that is in r is in s (P5.1).
func (r Region) Within(s Region) bool { return r.Minus(s).Empty() }

// rest answers what is not in r.
func (r Region) rest() Region {
	rest := Region{odd: !r.odd}
	for i, l := range r.spans {
		rest.spans[i] = others(l, cutsOf(i+1).first)
	}
	return rest
}

// or answers what is in one of both, or in both.
func (r Region) or(s Region) Region { return r.rest().Minus(s).rest() }

// stretch answers the region of an Op that asks for values side by side: of any but Has, Ne and In.
func stretch(op int, own api.Value) Region {
	var r Region
	r.spans[own.Kind-1] = with(nil, stretched(op, own))
	return r
}

// stretched answers the span of such an Op, which is empty or turned round if there are no such values.
func stretched(op int, own api.Value) span {
	cuts := cutsOf(own.Kind)
	switch op {
	case api.Lt:
		return span{cuts.first, ahead(own)}
	case api.Le:
		return span{cuts.first, cuts.behind(own)}
	case api.Gt:
		return span{cuts.behind(own), end()}
	case api.Ge:
		return span{ahead(own), end()}
	case api.Prefix:
		return span{ahead(own), behindBegun(own.Str)}
	}
	return span{ahead(own), cuts.behind(own)}
}

// has tells whether v, of the span's Kind, is in it.
func (s span) has(v api.Value) bool {
	return !before(ahead(v), s.from) && before(ahead(v), s.to)
}

// with answers l with s behind it, if s is not empty.
func with(l []span, s span) []span {
	if before(s.from, s.to) {
		return append(l, s)
	}
	return l
}

// common answers what two lists of one Kind have in common.
// Of their first spans the one that ends first has nothing in common with what comes behind the other one.
func common(a, b []span) []span {
	var l []span
	for len(a) > 0 && len(b) > 0 {
		both := a[0]
		if before(both.from, b[0].from) {
			both.from = b[0].from
		}
		if before(b[0].to, both.to) {
			both.to = b[0].to
		}
		l = with(l, both)
		if before(a[0].to, b[0].to) {
			a = a[1:]
		} else {
			b = b[1:]
		}
	}
	return l
}

// others answers what lies between the spans of l, ahead of them, from the first cut on, and behind them.
func others(l []span, from cut) []span {
	var rest []span
	for _, s := range l {
		rest = with(rest, span{from, s.from})
		from = s.to
	}
	return with(rest, span{from, end()})
}

// cuts are where the values of one Kind begin, and what takes a value to the cut right behind it.
type cuts struct {
	first  cut
	behind func(api.Value) cut
}

// cutsOf answers the cuts of a Kind.
func cutsOf(kind int) cuts {
	switch kind {
	case api.Int:
		return cuts{ahead(value.Number(math.MinInt64)), func(v api.Value) cut {
			if v.Num == math.MaxInt64 {
				return end()
			}
			return ahead(value.Number(v.Num + 1))
		}}
	case api.Str:
		return cuts{ahead(value.Word("")), func(v api.Value) cut {
			return ahead(value.Word(v.Str + "\x00"))
		}}
	}
	return cuts{ahead(value.Truth(false)), func(v api.Value) cut {
		if v.Bool {
			return end()
		}
		return ahead(value.Truth(true))
	}}
}

// ahead answers the cut right ahead of v.
func ahead(v api.Value) cut { return cut{next: v} }

// end answers the cut behind all values of a Kind.
func end() cut { return cut{last: true} }

// before tells whether a is ahead of b, a cut of the same Kind.
func before(a, b cut) bool {
	if a.last || b.last {
		return !a.last
	}
	return value.Compare(a.next, b.next) < 0
}

// behindBegun answers the cut behind all texts that begin with s.
// Its bytes ff can't rise, so the byte ahead of them does; if there is none, no text is behind all of these.
func behindBegun(s string) cut {
	for i := len(s) - 1; i >= 0; i-- {
		if s[i] < 0xff {
			return ahead(value.Word(s[:i] + string([]byte{s[i] + 1})))
		}
	}
	return end()
}
