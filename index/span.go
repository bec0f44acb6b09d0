package index

import (
	"sort"
	"strings"

	"pneumatic/api"
	"pneumatic/value"
)

// cut tells whether a value is behind it: of values that rise, first of none, then of all.
type cut func(v api.Value) bool

// span is values in a row: those behind begin that are not behind end.
type span struct{ begin, end cut }

// of answers the entries of l, which is in order, that s has.
func (s span) of(l []entry) []entry {
	from := s.begin.in(l)
	return l[from : from+s.end.in(l[from:])]
}

// in answers the place in l, which is in order, of the first entry behind c.
func (c cut) in(l []entry) int {
	return sort.Search(len(l), func(i int) bool { return c(l[i].value) })
}

// spans makes the spans of which c holds; if c is in its normal form, no two of them have a value in common.
func spans(c api.Constraint) []span {
	own := c.Value
	switch c.Op {
	case api.Has:
		return []span{{begin: always, end: never}}
	case api.Eq:
		return []span{just(own)}
	case api.Ne:
		return []span{{begin: kind(own), end: from(own)}, {begin: past(own), end: pastKind(own)}}
	case api.Lt:
		return []span{{begin: kind(own), end: from(own)}}
	case api.Le:
		return []span{{begin: kind(own), end: past(own)}}
	case api.Gt:
		return []span{{begin: past(own), end: pastKind(own)}}
	case api.Ge:
		return []span{{begin: from(own), end: pastKind(own)}}
	case api.Prefix:
		return []span{{begin: from(own), end: pastBegun(own)}}
	}
	return each(c.Set)
}

// each makes the spans of each of these values.
func each(these []api.Value) []span {
	var l []span
	for _, v := range these {
		l = append(l, just(v))
	}
	return l
}

// just makes the span of that one value.
func just(own api.Value) span { return span{begin: from(own), end: past(own)} }

func always(api.Value) bool { return true }

func never(api.Value) bool { return false }

// from makes the cut ahead of own.
func from(own api.Value) cut {
	return func(v api.Value) bool { return value.Compare(v, own) >= 0 }
}

// past makes the cut behind own.
func past(own api.Value) cut {
	return func(v api.Value) bool { return value.Compare(v, own) > 0 }
}

// kind makes the cut ahead of the values of own's Kind.
func kind(own api.Value) cut {
	return func(v api.Value) bool { return v.Kind >= own.Kind }
}

// pastKind makes the cut behind the values of own's Kind.
func pastKind(own api.Value) cut {
	return func(v api.Value) bool { return v.Kind > own.Kind }
}

// pastBegun makes the cut behind the texts that begin with own: they stand in a row, own the first of them.
func pastBegun(own api.Value) cut {
	return func(v api.Value) bool {
		begun := v.Kind == api.Str && strings.HasPrefix(v.Str, own.Str)
		return !begun && value.Compare(v, own) > 0
	}
}
