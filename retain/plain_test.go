package retain

import (
	"math"
	"math/big"
	"math/rand"
	"slices"
	"testing"

	"pneumatic/api"
	"pneumatic/codec"
)

// allowed tells whether a whole row is, by the chapter's words alone.
func allowed(p api.Policy, now uint64, l []api.Item) bool {
	if p.Count != 0 && len(l) > p.Count {
		return false
	}
	sizes := 0
	for _, x := range l {
		sizes += codec.Size(x.Event) + 16
	}
	if p.Bytes != 0 && sizes > p.Bytes {
		return false
	}
	return p.Age == 0 || !slices.ContainsFunc(l, func(x api.Item) bool { return ticks(x, now).Cmp(big.NewInt(int64(p.Age))) > 0 })
}

// ticks answers an item's age, in numbers of any size.
func ticks(x api.Item, now uint64) *big.Int {
	n := new(big.Int).Sub(new(big.Int).SetUint64(now), new(big.Int).SetUint64(x.Time))
	if n.Sign() < 0 {
		return new(big.Int)
	}
	return n
}

// least answers the least place from which on l is allowed: all places are tried, from 0 on.
func least(p api.Policy, now uint64, l []api.Item) int {
	for i := range l {
		if allowed(p, now, l[i:]) {
			return i
		}
	}
	return len(l)
}

// number answers the low number of l, of which all from place on stay.
func number(l []api.Item, place int) uint64 {
	switch {
	case len(l) == 0:
		return 0
	case place == len(l):
		return l[place-1].N + 1
	}
	return l[place].N
}

func oneOf[T any](r *rand.Rand, l ...T) T { return l[r.Intn(len(l))] }

// someTime answers one of few, so that many are at an edge; some are far away.
func someTime(r *rand.Rand) uint64 {
	if r.Intn(40) == 0 {
		return oneOf[uint64](r, edge, edge+3, 1<<63-1, 1<<63, math.MaxUint64-1, math.MaxUint64)
	}
	return uint64(r.Intn(12))
}

func someItem(r *rand.Rand) api.Item {
	x := api.Item{N: uint64(r.Intn(20)), Time: someTime(r), Event: sized(18 + r.Intn(17))}
	if r.Intn(10) == 0 {
		x.Event = oddEvent()
	}
	if r.Intn(30) == 0 {
		x.N = oneOf[uint64](r, edge, edge+1, math.MaxUint64)
	}
	return x
}

func someItems(r *rand.Rand) []api.Item {
	var l []api.Item
	for range r.Intn(12) {
		l = append(l, someItem(r))
	}
	return l
}

// somePolicy answers one that often asks for what rows of someItems have in part.
func somePolicy(r *rand.Rand) api.Policy {
	var p api.Policy
	if r.Intn(2) > 0 {
		p.Count = oneOf(r, r.Intn(14), r.Intn(14), edge)
	}
	if r.Intn(2) > 0 {
		p.Age = oneOf(r, r.Intn(14), r.Intn(14), edge, edge-1)
	}
	if r.Intn(2) > 0 {
		p.Bytes = oneOf(r, r.Intn(40), r.Intn(300), r.Intn(300), edge)
	}
	return p
}

// stricter answers a policy that asks for no less than p.
func stricter(r *rand.Rand, p api.Policy) api.Policy {
	for _, n := range []*int{&p.Age, &p.Bytes, &p.Count} {
		switch {
		case r.Intn(2) == 0:
		case *n == 0:
			*n = 1 + r.Intn(100)
		default:
			*n -= r.Intn(min(*n, 100))
		}
	}
	return p
}

// told answers what Tail tells; that it is OK is held.
func told(t *testing.T, p api.Policy, now uint64, l []api.Item) int {
	t.Helper()
	k, err := Tail(p, now, l)
	if err != api.OK {
		t.Fatalf("Tail(%v, %d, %v): %d", p, now, l, err)
	}
	return k
}

// TestPlain holds P15.2 to P15.4 of random rows: each place is tried by the chapter's words.
func TestPlain(t *testing.T) {
	r := rand.New(rand.NewSource(1))
	var none, some, all int
	for range 40000 {
		p, now, l := somePolicy(r), someTime(r), someItems(r)
		k := told(t, p, now, l)
		if want := least(p, now, l); k != want {
			t.Fatalf("Tail(%v, %d, %v): %d, not %d", p, now, l, k, want)
		}
		if n, err := Low(p, now, l); err != api.OK || n != number(l, k) {
			t.Fatalf("Low(%v, %d, %v): %d %d, not %d", p, now, l, n, err, number(l, k))
		}
		for i := range len(l) + 1 {
			if allowed(p, now, l[i:]) != (i >= k) {
				t.Fatalf("the tail of %v from %d on is allowed by %v at %d: %v, though Tail is %d", l, i, p, now, i < k, k)
			}
		}
		switch {
		case len(l) == 0:
		case k == 0:
			all++
		case k == len(l):
			none++
		default:
			some++
		}
	}
	if none < 2000 || some < 2000 || all < 2000 {
		t.Error("too few of a sort:", none, some, all)
	}
}

// TestOnlyTakesAway holds P15.5.
func TestOnlyTakesAway(t *testing.T) {
	r := rand.New(rand.NewSource(2))
	for range 20000 {
		p, now, l := somePolicy(r), someTime(r), someItems(r)
		k := told(t, p, now, l)
		later := now + min(uint64(r.Intn(20)), math.MaxUint64-now)
		if n := told(t, p, later, l); n < k {
			t.Fatalf("Tail(%v, %v): %d at %d, but %d at %d", p, l, k, now, n, later)
		}
		q := stricter(r, p)
		if n := told(t, q, now, l); n < k {
			t.Fatalf("Tail(%d, %v): %d by %v, but %d by %v", now, l, k, p, n, q)
		}
		if n := told(t, p, now, append(slices.Clone(l), someItem(r))); n < k {
			t.Fatalf("Tail(%v, %d, %v): %d, but %d with one more", p, now, l, k, n)
		}
	}
}

// TestAllKept holds P15.6: what stays is all kept, and its low number is the same.
func TestAllKept(t *testing.T) {
	r := rand.New(rand.NewSource(3))
	for range 20000 {
		p, now, l := somePolicy(r), someTime(r), someItems(r)
		k := told(t, p, now, l)
		if n := told(t, p, now, l[k:]); n != 0 {
			t.Fatalf("Tail(%v, %d, %v): %d, but of what stays %d", p, now, l, k, n)
		}
		if a, _ := Low(p, now, l); k < len(l) {
			if b, _ := Low(p, now, l[k:]); a != b {
				t.Fatalf("Low(%v, %d, %v): %d, but of what stays %d", p, now, l, a, b)
			}
		}
	}
}
