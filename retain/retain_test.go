package retain

import (
	"math"
	"reflect"
	"strings"
	"testing"

	"pneumatic/api"
	"pneumatic/value"
)

// edge is the greatest that a policy may ask for.
const edge = 1 << 40

// sized answers an event whose item has a size of n, 18 to 34: all but two bytes are its key's.
func sized(n int) api.Event { return api.Event{Key: strings.Repeat("k", n-18)} }

// oddEvent answers an event that may not be, so that it has no form.
func oddEvent() api.Event {
	return api.Event{Key: "key", Attrs: []api.Attr{{Name: "b", Value: value.Number(1)}, {Name: "a", Value: value.Number(1)}}}
}

// item answers one of a size of 18.
func item(n, time uint64) api.Item { return api.Item{N: n, Time: time, Event: sized(18)} }

// published answers items of a size of 18 of these times, numbers 1, 2, ..
func published(times ...uint64) []api.Item {
	var l []api.Item
	for i, t := range times {
		l = append(l, item(uint64(i+1), t))
	}
	return l
}

// row answers items of these sizes, of Time 0, numbers 1, 2, ..
func row(sizes ...int) []api.Item {
	var l []api.Item
	for i, n := range sizes {
		l = append(l, api.Item{N: uint64(i + 1), Event: sized(n)})
	}
	return l
}

// stays holds what is told of l: the place from which on it stays, and the number.
func stays(t *testing.T, p api.Policy, now uint64, l []api.Item, tail int, low uint64) {
	t.Helper()
	if k, err := Tail(p, now, l); err != api.OK || k != tail {
		t.Errorf("Tail(%v, %d, %v): %d %d, not %d", p, now, l, k, err, tail)
	}
	if n, err := Low(p, now, l); err != api.OK || n != low {
		t.Errorf("Low(%v, %d, %v): %d %d, not %d", p, now, l, n, err, low)
	}
}

// refused holds that p may not be, whatever is asked of it.
func refused(t *testing.T, p api.Policy) {
	t.Helper()
	if May(p) {
		t.Errorf("May(%v)", p)
	}
	for _, l := range [][]api.Item{nil, {}, published(1), published(1, 2, 3)} {
		for _, now := range []uint64{0, 5, math.MaxUint64} {
			if k, err := Tail(p, now, l); err != api.ErrArg || k != 0 {
				t.Errorf("Tail(%v, %d, %v): %d %d", p, now, l, k, err)
			}
			if n, err := Low(p, now, l); err != api.ErrArg || n != 0 {
				t.Errorf("Low(%v, %d, %v): %d %d", p, now, l, n, err)
			}
		}
	}
}

func TestExamples(t *testing.T) {
	stays(t, api.Policy{Count: 2}, 0, published(0, 0, 0), 1, 2)
	stays(t, api.Policy{Age: 5}, 10, published(3, 6, 4, 9), 3, 4)
	stays(t, api.Policy{Bytes: 10}, 0, published(1, 2, 3), 3, 4)
	stays(t, api.Policy{}, 0, published(1, 2, 3), 0, 1)
}

// TestMay holds P15.1: each of the three by itself, and with the others.
func TestMay(t *testing.T) {
	for _, n := range []int{0, 1, 2, 5, 1 << 20, edge - 1, edge} {
		for _, p := range []api.Policy{{Age: n}, {Bytes: n}, {Count: n}, {Age: n, Bytes: n, Count: n}, {Age: edge, Bytes: n, Count: edge}, {Age: n, Bytes: 1, Count: edge}, {Age: 1, Bytes: edge, Count: n}} {
			if !May(p) {
				t.Errorf("not May(%v)", p)
			}
		}
	}
	for _, n := range []int{-1, -2, math.MinInt, -edge, edge + 1, edge + 2, 1 << 41, math.MaxInt} {
		for _, p := range []api.Policy{{Age: n}, {Bytes: n}, {Count: n}, {Age: n, Bytes: n, Count: n}, {Age: edge, Bytes: n, Count: edge}, {Age: n, Bytes: 1, Count: 1}, {Age: 1, Bytes: 1, Count: n}} {
			refused(t, p)
		}
	}
}

// TestSize holds P15.1: neither an item's number nor its time counts.
func TestSize(t *testing.T) {
	long := api.Event{Key: strings.Repeat("k", api.MaxKey)}
	for i := range api.MaxAttrs {
		long.Attrs = append(long.Attrs, api.Attr{Name: strings.Repeat("a", api.MaxName-1) + string(rune('a'+i)), Value: value.Word(strings.Repeat("x", api.MaxStr))})
	}
	for _, c := range []struct {
		e    api.Event
		want int
	}{
		{api.Event{}, 18}, {api.Event{Attrs: []api.Attr{}}, 18}, {api.Event{Key: "k"}, 19}, {sized(34), 34},
		{api.Event{Attrs: []api.Attr{{Name: "a", Value: value.Number(6)}}}, 22},
		{api.Event{Attrs: []api.Attr{{Name: "a", Value: value.Number(64)}}}, 23},
		{api.Event{Key: "k", Attrs: []api.Attr{{Name: "a", Value: value.Word("xyz")}, {Name: "bb", Value: value.Truth(true)}}}, 31},
		{long, 442},
		{oddEvent(), 16}, {sized(35), 16}, {api.Event{Attrs: []api.Attr{{}}}, 16}, {api.Event{Key: strings.Repeat("k", 1<<16)}, 16},
	} {
		for _, x := range []api.Item{{Event: c.e}, {N: 1, Time: 1, Event: c.e}, {N: math.MaxUint64, Time: math.MaxUint64, Event: c.e}} {
			if n := Size(x); n != c.want {
				t.Errorf("Size(%v): %d, not %d", x, n, c.want)
			}
		}
	}
}

func TestCount(t *testing.T) {
	l := published(9, 8, 7, 6)
	for count, tail := range []int{0, 3, 2, 1, 0, 0, 0} {
		stays(t, api.Policy{Count: count}, 100, l, tail, uint64(tail+1))
	}
	stays(t, api.Policy{Count: edge}, 0, l, 0, 1)
	stays(t, api.Policy{Count: 1}, 0, published(5), 0, 1)
	stays(t, api.Policy{Count: 1}, 0, published(5, 5), 1, 2)
}

// TestAge holds ages at the edges; of a Time that is not ahead of the moment it is 0.
func TestAge(t *testing.T) {
	const top = math.MaxUint64
	for _, c := range []struct {
		age       int
		now, time uint64
		stays     bool
	}{
		{1, 0, 0, true}, {1, 1, 0, true}, {1, 2, 0, false}, {5, 10, 5, true}, {5, 10, 4, false}, {5, 10, 6, true}, {5, 10, 10, true}, {5, 10, 11, true}, {5, 10, 15, true}, {5, 10, 16, true}, {5, 10, 1000, true},
		{1, 0, top, true}, {1, 1, top, true}, {1, top, top, true}, {1, top, top - 1, true}, {1, top, top - 2, false}, {1, top, 0, false}, {1, 1 << 63, 1<<63 + 2, true}, {1, 1<<63 + 2, 1 << 63, false}, {1, 1<<63 - 1, 1<<63 + 1, true},
		{edge, edge, 0, true}, {edge, edge + 1, 0, false}, {edge, edge + 1, 1, true}, {edge, top, top - edge, true}, {edge, top, top - edge - 1, false}, {edge, top, 0, false}, {edge, 0, top, true}, {edge - 1, edge, 0, false},
		{0, top, 0, true}, {0, 0, top, true}, {0, 1, 0, true},
	} {
		tail, low := 0, uint64(1)
		if !c.stays {
			tail, low = 1, 2
		}
		stays(t, api.Policy{Age: c.age}, c.now, published(c.time), tail, low)
	}
}

// TestAgeOfAnyOrder holds that one that is too old takes all ahead of it away, however young these are.
func TestAgeOfAnyOrder(t *testing.T) {
	p := api.Policy{Age: 5}
	stays(t, p, 10, published(10, 9, 8, 4), 4, 5)
	stays(t, p, 10, published(4, 10, 9, 8), 1, 2)
	stays(t, p, 10, published(10, 4, 3, 8, 7), 3, 4)
	stays(t, p, 10, published(10, 0, 8, 4, 7), 4, 5)
	stays(t, p, 10, published(5, 9, 5, 20, 7), 0, 1)
	stays(t, p, 11, published(5, 9, 5, 20, 7), 3, 4)
	stays(t, p, 13, published(5, 9, 5, 20, 7), 5, 6)
}

func TestBytes(t *testing.T) {
	l := row(18, 25, 34, 20)
	for _, c := range []struct{ bytes, tail int }{
		{0, 0}, {1, 4}, {19, 4}, {20, 3}, {21, 3}, {34, 3}, {53, 3}, {54, 2}, {55, 2}, {78, 2}, {79, 1}, {96, 1}, {97, 0}, {98, 0}, {edge, 0},
	} {
		stays(t, api.Policy{Bytes: c.bytes}, 0, l, c.tail, uint64(c.tail+1))
	}
	odd := []api.Item{{N: 1, Event: oddEvent()}, {N: 2, Event: oddEvent()}}
	for _, c := range []struct{ bytes, tail int }{{15, 2}, {16, 1}, {31, 1}, {32, 0}} {
		stays(t, api.Policy{Bytes: c.bytes}, 0, odd, c.tail, uint64(c.tail+1))
	}
}

// TestGreatBetween holds that one that is too large is not left out: what is ahead of it goes as well.
func TestGreatBetween(t *testing.T) {
	stays(t, api.Policy{Bytes: 54}, 0, row(18, 18, 34, 18, 18), 3, 4)
	stays(t, api.Policy{Bytes: 20}, 0, row(18, 18, 21), 3, 4)
}

// TestTogether holds that each thing that is asked for must hold.
func TestTogether(t *testing.T) {
	l := published(1, 5, 3, 9)
	for _, c := range []struct {
		p    api.Policy
		tail int
	}{
		{api.Policy{Age: 9, Bytes: 72, Count: 4}, 0}, {api.Policy{Age: 8, Bytes: 72, Count: 4}, 1}, {api.Policy{Age: 9, Bytes: 71, Count: 4}, 1}, {api.Policy{Age: 9, Bytes: 72, Count: 3}, 1},
		{api.Policy{Age: 8, Bytes: 53, Count: 3}, 2}, {api.Policy{Age: 8, Bytes: 54, Count: 2}, 2}, {api.Policy{Age: 6, Bytes: 54, Count: 3}, 3}, {api.Policy{Age: 1, Bytes: 17, Count: 1}, 4},
		{api.Policy{Age: 8, Count: 2}, 2}, {api.Policy{Age: 6, Count: 2}, 3}, {api.Policy{Bytes: 36, Count: 3}, 2}, {api.Policy{Bytes: 54, Count: 1}, 3}, {api.Policy{Age: 6, Bytes: 54}, 3}, {api.Policy{Age: 8, Bytes: 17}, 4},
	} {
		stays(t, c.p, 10, l, c.tail, uint64(c.tail+1))
	}
}

// TestNoItems holds that of none 0 is told of both.
func TestNoItems(t *testing.T) {
	for _, p := range []api.Policy{{}, {Age: 1}, {Bytes: 1}, {Count: 1}, {Age: edge, Bytes: edge, Count: edge}} {
		for _, now := range []uint64{0, 1, math.MaxUint64} {
			stays(t, p, now, nil, 0, 0)
			stays(t, p, now, []api.Item{}, 0, 0)
		}
	}
}

// TestLowOfAnyNumbers holds P15.3 of numbers that neither rise nor may be: the one at the place is told, or the last one's and 1.
func TestLowOfAnyNumbers(t *testing.T) {
	const top = math.MaxUint64
	l := []api.Item{item(7, 0), item(0, 0), item(top, 0), item(3, 0), item(3, 0)}
	for count, c := range []struct {
		tail int
		low  uint64
	}{{0, 7}, {4, 3}, {3, 3}, {2, top}, {1, 0}, {0, 7}} {
		stays(t, api.Policy{Count: count}, 0, l, c.tail, c.low)
	}
	for _, n := range []uint64{0, 1, 3, 1 << 40, 1<<63 - 1, top - 1} {
		stays(t, api.Policy{Bytes: 1}, 0, []api.Item{item(9, 0), item(n, 0)}, 2, n+1)
		stays(t, api.Policy{Age: 1}, 9, []api.Item{item(n, 0)}, 1, n+1)
		stays(t, api.Policy{Age: 1}, 0, []api.Item{item(n, 0)}, 0, n)
	}
	stays(t, api.Policy{Bytes: 1}, 0, []api.Item{item(9, 0), item(top, 0)}, 2, 0)
	stays(t, api.Policy{}, 0, []api.Item{item(top, 0)}, 0, top)
}

// TestManyItems holds a row that is longer than any of a store, and that what is asked of one call is not kept for the next one.
func TestManyItems(t *testing.T) {
	l := published(make([]uint64, 10000)...)
	for range 2 {
		stays(t, api.Policy{Count: 4000}, 0, l, 6000, 6001)
		stays(t, api.Policy{Bytes: 18*4000 + 17}, 0, l, 6000, 6001)
		stays(t, api.Policy{Age: 5}, 5, l, 0, 1)
		stays(t, api.Policy{Age: 5}, 6, l, 10000, 10001)
	}
}

// TestGivenIsOnlyRead holds R3.
func TestGivenIsOnlyRead(t *testing.T) {
	make3 := func() []api.Item {
		l := published(3, 2, 1)
		l[1].Event = oddEvent()
		l[2].Event = sized(30)
		return l
	}
	l := make3()
	for _, p := range []api.Policy{{}, {Age: 1}, {Bytes: 40}, {Count: 2}, {Age: 3, Bytes: 60, Count: 9}, {Age: -1}} {
		Tail(p, 4, l)
		Low(p, 4, l)
		Size(l[1])
		if !reflect.DeepEqual(l, make3()) {
			t.Fatalf("%v changed what was given: %v", p, l)
		}
	}
}
