package codec

import (
	"pneumatic/api"
	"pneumatic/wire"
)

// put answers the form of x as lay lays it; ErrMalformed, if x may not be.
func put[T any](x T, may func(T) bool, lay func(*writer, T)) ([]byte, api.Errno) {
	if !may(x) {
		return nil, api.ErrMalformed
	}
	w := &writer{}
	lay(w, x)
	return w.laid, api.OK
}

// writer has what of a form is laid. It lays just what may be.
// Each part is laid apart, and put behind the others: wire would copy all that is laid ahead of it.
type writer struct{ laid []byte }

func (w *writer) num(n uint64) { w.laid = append(w.laid, wire.Num(nil, n)...) }

func (w *writer) signed(n int64) { w.laid = append(w.laid, wire.Int(nil, n)...) }

func (w *writer) text(s string) { w.laid = append(w.laid, wire.Bytes(nil, []byte(s))...) }

func (w *writer) truth(is bool) {
	if is {
		w.num(1)
	} else {
		w.num(0)
	}
}

func (w *writer) value(v api.Value) {
	w.num(uint64(v.Kind))
	switch v.Kind {
	case api.Int:
		w.signed(v.Num)
	case api.Str:
		w.text(v.Str)
	case api.Bool:
		w.truth(v.Bool)
	}
}

func (w *writer) event(e api.Event) {
	w.text(e.Key)
	layAll(w, e.Attrs, w.attr)
}

func (w *writer) attr(a api.Attr) {
	w.text(a.Name)
	w.value(a.Value)
}

func (w *writer) pred(p api.Pred) { layAll(w, p, w.constraint) }

func (w *writer) constraint(c api.Constraint) {
	w.text(c.Name)
	w.num(uint64(c.Op))
	switch c.Op {
	case api.Has:
	case api.In:
		layAll(w, c.Set, w.value)
	default:
		w.value(c.Value)
	}
}

func (w *writer) item(x api.Item) {
	w.num(x.N)
	w.num(x.Time)
	w.event(x.Event)
}

func (w *writer) gap(g api.Gap) {
	w.num(g.From)
	w.num(g.To)
}

func (w *writer) page(p api.Page) {
	w.num(p.From)
	w.num(p.End)
	layAll(w, p.Items, w.item)
	layAll(w, p.Gaps, w.gap)
	w.truth(p.Last)
}

// layAll lays how many l has, and each of them.
func layAll[T any](w *writer, l []T, lay func(T)) {
	w.num(uint64(len(l)))
	for _, x := range l {
		lay(x)
	}
}
