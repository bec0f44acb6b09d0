package codec

import (
	"pneumatic/api"
	"pneumatic/value"
	"pneumatic/wire"
)

// fault is what a reader panics with, if it meets what can't be read.
type fault struct{}

// take answers what read reads of b, if that is all of b and may be; else ErrForm.
// Only the reader's own fault is taken back: any other panic would be a mistake of this package, which no answer may hide.
func take[T any](b []byte, may func(T) bool, read func(*reader) T) (x T, err api.Errno) {
	defer func() {
		switch met := recover().(type) {
		case nil:
		case fault:
			var none T
			x, err = none, api.ErrForm
		default:
			panic(met)
		}
	}()
	r := &reader{from: wire.New(b)}
	x = read(r)
	need(r.from.End() == api.OK && may(x))
	return x, api.OK
}

// need faults where what a form must have isn't so.
func need(is bool) {
	if !is {
		panic(fault{})
	}
}

// reader reads what has a form's shape; whether it may be, take asks.
type reader struct{ from *wire.Reader }

func (r *reader) num(most uint64) uint64 {
	n, err := r.from.Num(most)
	need(err == api.OK)
	return n
}

func (r *reader) signed() int64 {
	n, err := r.from.Int()
	need(err == api.OK)
	return n
}

func (r *reader) text(most int) string {
	s, err := r.from.Bytes(most)
	need(err == api.OK)
	return string(s)
}

func (r *reader) truth() bool { return r.num(1) == 1 }

func (r *reader) value() api.Value {
	switch r.num(api.Bool) {
	case api.Int:
		return value.Number(r.signed())
	case api.Str:
		return value.Word(r.text(api.MaxStr))
	case api.Bool:
		return value.Truth(r.truth())
	}
	panic(fault{})
}

func (r *reader) event() api.Event {
	key := r.text(api.MaxKey)
	return api.Event{Key: key, Attrs: readAll(r, api.MaxAttrs, r.attr)}
}

func (r *reader) attr() api.Attr {
	name := r.text(api.MaxName)
	return api.Attr{Name: name, Value: r.value()}
}

func (r *reader) pred() api.Pred { return readAll(r, api.MaxCons, r.constraint) }

func (r *reader) constraint() api.Constraint {
	c := api.Constraint{Name: r.text(api.MaxName)}
	c.Op = int(r.num(api.In))
	switch c.Op {
	case api.Has:
	case api.In:
		c.Set = readAll(r, api.MaxSet, r.value)
	default:
		c.Value = r.value()
	}
	return c
}

func (r *reader) item() api.Item {
	n := r.num(api.MaxNumber)
	time := r.num(api.MaxTime)
	return api.Item{N: n, Time: time, Event: r.event()}
}

func (r *reader) gap() api.Gap {
	from := r.num(greatest)
	return api.Gap{From: from, To: r.num(greatest)}
}

func (r *reader) page() api.Page {
	var p api.Page
	p.From = r.num(greatest)
	p.End = r.num(greatest)
	p.Items = readAll(r, api.MaxPage, r.item)
	p.Gaps = readAll(r, api.MaxScan, r.gap)
	p.Last = r.truth()
	return p
}

// readAll reads how many there are, at most so many, and each of them.
func readAll[T any](r *reader, most uint64, read func() T) []T {
	var l []T
	for range r.num(most) {
		l = append(l, read())
	}
	return l
}
