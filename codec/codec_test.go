package codec

import (
	"bytes"
	"math"
	"math/rand"
	"slices"
	"strings"
	"testing"

	"pneumatic/api"
	"pneumatic/event"
	"pneumatic/pred"
)

// P7.1.
func TestMay(t *testing.T) {
	for _, s := range sorts() {
		for _, x := range s.well() {
			if !s.may(x) {
				t.Errorf("%s: %v may be", s.name, x)
			}
		}
		for _, x := range s.ill() {
			if s.may(x) {
				t.Errorf("%s: %.300v may not be", s.name, x)
			}
		}
	}
}

// mayPage tells whether p may be, by the words of the chapter: number by number, for a page of few of them.
func mayPage(p api.Page) bool {
	if p.From < 1 || p.From > 1<<40+1 || p.End < p.From || p.End > 1<<40+1 || len(p.Items) > 4 || len(p.Gaps) > 16 {
		return false
	}
	removed := map[uint64]int{}
	for _, g := range p.Gaps {
		if g.From > g.To || g.From < p.From || g.To > p.End-1 {
			return false
		}
		for n := g.From; n <= g.To; n++ {
			removed[n]++
		}
	}
	for i, g := range p.Gaps {
		for _, ahead := range p.Gaps[:i] {
			if ahead.To >= g.From {
				return false
			}
		}
	}
	for i, x := range p.Items {
		if x.N < p.From || x.N > p.End-1 || removed[x.N] > 0 || x.Time > 1<<40 || !event.May(x.Event) || i > 0 && p.Items[i-1].N >= x.N {
			return false
		}
	}
	return true
}

// P7.1.
func TestMayPageOfAllSmall(t *testing.T) {
	yes := 0
	for from := range uint64(5) {
		for end := range uint64(6) {
			for mixed := range uint64(6 * 6 * 6 * 6 * 6 * 6) {
				var n [6]uint64
				for i := range n {
					n[i] = mixed % 6
					mixed /= 6
				}
				p := api.Page{From: from, End: end, Items: []api.Item{item(n[0]), item(n[1])}, Gaps: []api.Gap{gap(n[2], n[3]), gap(n[4], n[5])}}
				for _, q := range []api.Page{p, {From: from, End: end, Items: p.Items[:1], Gaps: p.Gaps}} {
					if MayPage(q) != mayPage(q) {
						t.Fatalf("%v: %v", q, MayPage(q))
					}
					if MayPage(q) {
						yes++
					}
				}
			}
		}
	}
	if yes < 50 {
		t.Error("too few may be:", yes)
	}
}

// P7.1.
func TestMayPageOfAny(t *testing.T) {
	r := rand.New(rand.NewSource(1))
	yes := 0
	for range 40000 {
		p := somePage(r)
		if MayPage(p) != mayPage(p) {
			t.Fatalf("%v: %v", p, MayPage(p))
		}
		if MayPage(p) && len(p.Items) > 1 && len(p.Gaps) > 1 {
			yes++
		}
	}
	if yes < 1000 {
		t.Error("too few may be:", yes)
	}
}

// P7.1.
func TestSize(t *testing.T) {
	for _, e := range wellEvents() {
		if Size(e) != len(form(e)) {
			t.Errorf("%v: %d", e, Size(e))
		}
	}
	for _, e := range illEvents() {
		if Size(e) != 0 {
			t.Errorf("%.300v: %d", e, Size(e))
		}
	}
	if Size(sample()) != 16 || Size(api.Event{}) != 2 {
		t.Error(Size(sample()), Size(api.Event{}))
	}
}

// P7.2, with forms laid by hand.
func TestForms(t *testing.T) {
	nothing := "\x00\x00"
	for _, x := range []struct {
		s    sort
		x    any
		want string
	}{
		{events(), sample(), "\x01k\x03\x01a\x01\x01\x01b\x02\x01x\x01c\x03\x01"},
		{events(), api.Event{}, nothing},
		{events(), of("\x80\x00"), "\x02\x80\x00\x00"},
		{events(), of("", attr("a", num(64)), attr("b", truth(false)), attr("c", word(""))), "\x00\x03\x01a\x01\x80\x01\x01b\x03\x00\x01c\x02\x00"},
		{events(), of("", attr("a", num(math.MinInt64))), "\x00\x01\x01a\x01\xff\xff\xff\xff\xff\xff\xff\xff\xff\x01"},
		{events(), of("", attr("a", num(math.MaxInt64))), "\x00\x01\x01a\x01\xfe\xff\xff\xff\xff\xff\xff\xff\xff\x01"},
		{events(), of("", attr("a", num(0)), attr("b", word(long(32)))), "\x00\x02\x01a\x01\x00\x01b\x02\x20" + long(32)},
		{preds(), api.Pred(nil), "\x00"},
		{preds(), api.Pred{}, "\x00"},
		{preds(), api.Pred{has("a")}, "\x01\x01a\x01"},
		{preds(), api.Pred{{Name: "a", Op: api.Has, Set: []api.Value{}}}, "\x01\x01a\x01"},
		{preds(), api.Pred{cons("b", api.Ge, num(5)), cons("a", api.Ne, truth(true)), cons("\xff", api.Prefix, word("x"))}, "\x03\x01b\x07\x01\x0a\x01a\x03\x03\x01\x01\xff\x08\x02\x01x"},
		{preds(), api.Pred{in("c", num(300), truth(false)), {Name: "c", Op: api.Lt, Value: word(""), Set: []api.Value{}}}, "\x02\x01c\x09\x02\x01\xd8\x04\x03\x00\x01c\x04\x02\x00"},
		{items(), item(1), "\x01\x00" + nothing},
		{items(), api.Item{N: api.MaxNumber, Time: 300, Event: of("k")}, "\x80\x80\x80\x80\x80\x20\xac\x02\x01k\x00"},
		{pages(), api.Page{From: 3, End: 5, Last: true}, "\x03\x05\x00\x00\x01"},
		{pages(), api.Page{From: 1, End: 1}, "\x01\x01\x00\x00\x00"},
		{pages(), api.Page{From: greatest, End: greatest}, "\x81\x80\x80\x80\x80\x20\x81\x80\x80\x80\x80\x20\x00\x00\x00"},
		{pages(), api.Page{From: 2, End: 9, Items: []api.Item{{N: 2, Time: 200}, {N: 6, Event: of("k")}}, Gaps: []api.Gap{gap(3, 5), gap(8, 8)}}, "\x02\x09\x02\x02\xc8\x01" + nothing + "\x06\x00\x01k\x00\x02\x03\x05\x08\x08\x00"},
	} {
		if b, err := x.s.put(x.x); err != api.OK || string(b) != x.want {
			t.Errorf("%s: %v: %x, %d, not %x", x.s.name, x.x, b, err, x.want)
		}
		if y, err := x.s.take([]byte(x.want)); err != api.OK || !same(y, x.x) {
			t.Errorf("%s: %x: %v, %d, not %v", x.s.name, x.want, y, err, x.x)
		}
	}
}

// P7.2, P7.4.
func TestPutAndTakeBack(t *testing.T) {
	for _, s := range sorts() {
		for _, x := range s.well() {
			b, err := s.put(x)
			if err != api.OK || !bytes.Equal(b, form(x)) {
				t.Errorf("%s: %v: %x, %d", s.name, x, b, err)
			}
			if y, err := s.take(b); err != api.OK || !same(y, x) {
				t.Errorf("%s: %x: %v, %d", s.name, b, y, err)
			}
		}
	}
}

// P7.2, P7.3: what may not be has no form, and of what its form would be nothing is taken.
func TestWhatMayNotBe(t *testing.T) {
	for _, s := range sorts() {
		for _, x := range s.ill() {
			if b, err := s.put(x); err != api.ErrMalformed || len(b) != 0 {
				t.Errorf("%s: %.300v: %x, %d", s.name, x, b, err)
			}
			sound(t, s, form(x))
		}
	}
	for _, n := range []int{api.MaxSet + 1, 1 << 10} {
		refused(t, preds(), form(api.Pred{in("a", slices.Repeat([]api.Value{num(1)}, n)...)}), "too many values")
	}
}

// P7.2 to P7.4.
func TestAny(t *testing.T) {
	r := rand.New(rand.NewSource(2))
	for _, s := range sorts() {
		may := 0
		for range 20000 {
			x := s.some(r)
			b, err := s.put(x)
			if !s.may(x) {
				if err != api.ErrMalformed || len(b) != 0 {
					t.Fatalf("%s: %v: %x, %d", s.name, x, b, err)
				}
				continue
			}
			may++
			if err != api.OK || !bytes.Equal(b, form(x)) {
				t.Fatalf("%s: %v: %x, %d", s.name, x, b, err)
			}
			if y, err := s.take(b); err != api.OK || !same(y, x) {
				t.Fatalf("%s: %x: %v, %d", s.name, b, y, err)
			}
		}
		if may < 4000 || may > 19500 {
			t.Errorf("%s: %d may be", s.name, may)
		}
	}
}

// P7.3, P7.4: no form is the beginning of another one.
func TestBeginningsAndMore(t *testing.T) {
	for _, s := range sorts() {
		for _, x := range s.well() {
			b := form(x)
			for n := range b {
				refused(t, s, b[:n], "a beginning")
			}
			for _, c := range []byte{0, 1, 2, 'a', 0x7f, 0x80, 0xff} {
				refused(t, s, append(bytes.Clone(b), c), "a byte behind")
			}
			refused(t, s, append(bytes.Clone(b), b...), "twice")
			refused(t, s, append([]byte{0}, b...), "a nought ahead")
		}
		refused(t, s, nil, "nothing at all")
		refused(t, s, []byte{}, "nothing at all")
	}
}

// P7.3.
func TestLongerNumbers(t *testing.T) {
	for _, s := range sorts() {
		for _, x := range s.well() {
			laid := &scribe{}
			laid.lay(x)
			for _, end := range laid.ends {
				b := bytes.Clone(laid.b[:end])
				b[end-1] |= 0x80
				refused(t, s, slices.Concat(b, []byte{0}, laid.b[end:]), "a number in a longer form")
				refused(t, s, slices.Concat(b, []byte{0x80, 0}, laid.b[end:]), "a number in a longer form")
				refused(t, s, slices.Concat(b, bytes.Repeat([]byte{0xff}, 9), laid.b[end:]), "a number above all")
			}
		}
	}
}

// P7.3, by hand.
func TestNoForms(t *testing.T) {
	for _, x := range []struct {
		s    sort
		rows []string
	}{
		{events(), []string{
			"\x00", "\x80\x00\x00", "\x81\x00k\x00", "\x00\x80\x00", "\x00\x00\x00", "\x11" + long(17) + "\x00",
			"\x00\x01", "\x00\x09" + strings.Repeat("\x01a\x01\x00", 9), "\x00\x01\x01a\x00", "\x00\x01\x01a\x04\x00", "\x00\x01\x01a\x00\x00", "\x00\x01\x01a\x81\x00\x00", "\x00\x01\x01a\x81\x02\x00",
			"\x00\x01\x01a\x03\x02", "\x00\x01\x01a\x03\x80\x00", "\x00\x01\x01a\x03\xff\x01", "\x00\x01\x01a\x02\x21" + long(33), "\x00\x01\x01a\x02\x02x", "\x00\x01\x01a\x01\xff\xff\xff\xff\xff\xff\xff\xff\xff\x02",
			"\x00\x02\x01b\x01\x00\x01a\x01\x00", "\x00\x02\x01a\x01\x00\x01a\x01\x00", "\x00\x02\x01a\x01\x00\x01a\x01\x02", "\x00\x02\x02aa\x01\x00\x01a\x01\x00", "\x00\x01\x01A\x01\x00", "\x00\x01\x00\x01\x00", "\x00\x01\x11" + long(17) + "\x01\x00",
			"\x00\xff\xff\xff\xff\xff\xff\xff\xff\xff\x01", "\xff\xff\xff\xff\xff\xff\xff\xff\xff\x01",
		}},
		{preds(), []string{
			"\x01", "\x07" + strings.Repeat("\x01a\x01", 7), "\x80\x00", "\x00\x00", "\x01\x00\x01", "\x01\x11" + long(17) + "\x01",
			"\x01\x01a\x00", "\x01\x01a\x00\x01\x00", "\x01\x01a\x0a", "\x01\x01a\x0a\x01\x00", "\x01\x01a\x82\x02\x01\x00", "\x01\x01a\x81\x00", "\x01\x01a\x01\x01\x00", "\x01\x01a\x02", "\x01\x01a\x02\x00", "\x01\x01a\x02\x04\x00",
			"\x01\x01a\x09\x00", "\x01\x01a\x09\x07" + strings.Repeat("\x01\x00", 7), "\x01\x01a\x09\x02\x01\x00", "\x01\x01a\x09\x01\x00", "\x01\x01a\x09", "\x01\x01a\x08\x01\x00", "\x01\x01a\x08\x03\x01", "\x01\x01a\x08\x02\x21" + long(33),
			"\xff\xff\xff\xff\xff\xff\xff\xff\xff\x01",
		}},
		{items(), []string{
			"\x00\x00\x00\x00", "\x01", "\x01\x00", "\x01\x00\x00", "\x81\x00\x00\x00\x00", "\x01\x80\x00\x00\x00", "\x81\x80\x80\x80\x80\x20\x00\x00\x00", "\x01\x81\x80\x80\x80\x80\x20\x00\x00", "\xff\xff\xff\xff\xff\xff\xff\xff\xff\x01\x00\x00\x00",
			"\x01\x00\x00\x01\x01A\x01\x00", "\x01\x00\x00\x00\x00",
		}},
		{pages(), []string{
			"\x00\x05\x00\x00\x00", "\x03\x02\x00\x00\x00", "\x03\x05\x00\x00\x02", "\x03\x05\x00\x00\x81\x00", "\x03\x05\x00\x00", "\x03\x05\x00\x00\x01\x00", "\x83\x00\x05\x00\x00\x01",
			"\x82\x80\x80\x80\x80\x20\x82\x80\x80\x80\x80\x20\x00\x00\x00", "\x01\x82\x80\x80\x80\x80\x20\x00\x00\x00",
			"\x01\x09\x05" + "\x01\x00\x00\x00\x02\x00\x00\x00\x03\x00\x00\x00\x04\x00\x00\x00\x05\x00\x00\x00" + "\x00\x00", "\x01\x09\x02\x02\x00\x00\x00\x02\x00\x00\x00\x00\x00", "\x01\x09\x01\x09\x00\x00\x00\x00\x00", "\x02\x09\x01\x01\x00\x00\x00\x00\x00",
			"\x01\x09\x00\x11" + strings.Repeat("\x01\x01", 17) + "\x00", "\x01\x09\x00\x01\x03\x02\x00", "\x01\x09\x00\x01\x03\x09\x00", "\x02\x09\x00\x01\x01\x02\x00", "\x01\x09\x00\x02\x03\x04\x04\x05\x00", "\x01\x09\x00\x02\x05\x06\x03\x03\x00", "\x01\x09\x01\x03\x00\x00\x00\x01\x02\x04\x00",
		}},
	} {
		for _, b := range x.rows {
			refused(t, x.s, []byte(b), "no form")
		}
	}
}

// P7.3, P7.4: of each row that is near a form, either nothing is taken, or what has just that form.
func TestChangedForms(t *testing.T) {
	r := rand.New(rand.NewSource(3))
	for _, s := range sorts() {
		taken := 0
		for _, x := range s.well() {
			b := form(x)
			for i := 0; i < len(b); i += 1 + r.Intn(1+len(b)/100) { // each place of a short form, some of a long one
				for _, c := range []byte{0, 1, 2, 3, 4, 7, 8, 9, 10, 'a', 'z', b[i] + 1, b[i] - 1, b[i] ^ 0x80, byte(r.Intn(256))} {
					for _, y := range [][]byte{slices.Concat(b[:i], []byte{c}, b[i+1:]), slices.Concat(b[:i], []byte{c}, b[i:]), slices.Concat(b[:i], b[i+1:])} {
						if sound(t, s, y) {
							taken++
						}
					}
				}
			}
		}
		if taken < 500 {
			t.Errorf("%s: too few are taken: %d", s.name, taken)
		}
	}
}

// P7.3, P6.
func TestAnyBytes(t *testing.T) {
	r := rand.New(rand.NewSource(4))
	for _, s := range sorts() {
		for range 40000 {
			b := make([]byte, r.Intn(24))
			top := []int{4, 16, 128, 256}[r.Intn(4)]
			for i := range b {
				b[i] = byte(r.Intn(top))
			}
			sound(t, s, b)
		}
		for c := range 256 {
			sound(t, s, bytes.Repeat([]byte{byte(c)}, 1<<12))
		}
	}
}

// P7.3, P7.4: all rows of up to six of some bytes. Those taken are as many as there are forms among them, counted by hand:
// an event of nothing but a key of n bytes has a form of n+2; with one attribute of a name of one byte, and a value of one byte, of n+6.
func TestAllShortRows(t *testing.T) {
	const some = "\x00\x01\x02\x03\x04a\x80"
	counts := map[string]int{}
	rows := [][]byte{nil}
	for range 7 {
		var longer [][]byte
		for _, b := range rows {
			for _, s := range sorts() {
				if sound(t, s, b) {
					counts[s.name]++
				}
			}
			for _, c := range []byte(some) {
				longer = append(longer, append(slices.Clip(b), c))
			}
		}
		rows = longer
	}
	keys := 1 + 7 + 7*7 + 7*7*7 + 7*7*7*7
	ints := 6 // one byte each, 80 being none
	if want := keys + ints + 1 + 2; counts["event"] != want {
		t.Errorf("%d events, not %d", counts["event"], want)
	}
	for name, n := range counts {
		if n < 10 {
			t.Errorf("%s: too few are taken: %d", name, n)
		}
	}
}

// P7.4: unlike things have unlike forms, and like ones one form.
func TestUnlikeForms(t *testing.T) {
	r := rand.New(rand.NewSource(5))
	for _, s := range sorts() {
		all := s.well()
		for range 400 {
			if x := s.some(r); s.may(x) {
				all = append(all, x)
			}
		}
		forms := make([][]byte, len(all))
		for i, x := range all {
			forms[i], _ = s.put(x)
		}
		for i := range all {
			for j := range i {
				alike := bytes.Equal(forms[i], forms[j])
				if alike && !same(all[i], all[j]) || bytes.HasPrefix(forms[i], forms[j]) != alike || bytes.HasPrefix(forms[j], forms[i]) != alike {
					t.Errorf("%s: %v %v: %x %x", s.name, all[i], all[j], forms[i], forms[j])
				}
			}
		}
	}
}

// P7.4, by the layers' own words of what is the same.
func TestSameBack(t *testing.T) {
	for _, e := range wellEvents() {
		b, _ := PutEvent(e)
		if back, err := TakeEvent(b); err != api.OK || !event.Same(e, back) {
			t.Error(e, back, err)
		}
	}
	for _, p := range wellPreds() {
		b, _ := PutPred(p)
		if back, err := TakePred(b); err != api.OK || !pred.Same(p, back) {
			t.Error(p, back, err)
		}
	}
}

// P7.5.
func TestLongestEvent(t *testing.T) {
	most := 0
	for _, e := range append(wellEvents(), full()) {
		most = max(most, Size(e))
	}
	r := rand.New(rand.NewSource(6))
	for range 20000 {
		most = max(most, Size(someEvent(r)))
	}
	if most != Size(full()) || most > api.MaxEvent || most != 17+1+8*(17+2+32) {
		t.Error(most)
	}
}

// R3: what is given stays, and what is answered lives apart from it.
func TestApart(t *testing.T) {
	for _, s := range sorts() {
		for _, x := range append(s.well(), s.ill()...) {
			given := copied(x)
			b, err := s.put(x)
			if !same(x, given) {
				t.Fatalf("%s: %v was changed", s.name, given)
			}
			if err != api.OK {
				continue
			}
			again, _ := s.put(x)
			y, _ := s.take(b)
			clear(b)
			if !bytes.Equal(again, form(given)) || !same(y, given) {
				t.Errorf("%s: %v hangs on the bytes of another answer", s.name, given)
			}
		}
	}
}

// R3: lists of one answer share nothing.
func TestListsApart(t *testing.T) {
	want := fullPage()
	for i := range want.Items {
		want.Items[i].Event.Attrs = want.Items[i].Event.Attrs[:3]
	}
	got, err := TakePage(form(want))
	for i := range got.Items {
		_ = append(got.Items[i].Event.Attrs, attr("x", num(9)), attr("y", num(9)))
	}
	_ = append(got.Gaps, gap(9, 9))
	if err != api.OK || !same(got, want) {
		t.Error(got, err)
	}
	p, err := TakePred(form(api.Pred{in("a", num(1)), in("b", num(1)), in("c", num(1))}))
	if err != api.OK || len(p) != 3 {
		t.Fatal(p, err)
	}
	_ = append(p[0].Set, num(9), num(9))
	p[0].Set[0] = num(8)
	if !same(p, api.Pred{in("a", num(8)), in("b", num(1)), in("c", num(1))}) {
		t.Error(p)
	}
}

// R7: many at once are answered as one alone.
func TestManyAtOnce(t *testing.T) {
	want := form(fullPage())
	done := make(chan bool)
	for range 8 {
		go func() {
			good := true
			for range 200 {
				p, _ := TakePage(want)
				_, bad := TakePage(want[:len(want)-1])
				b, _ := PutPage(p)
				good = good && bytes.Equal(b, want) && bad == api.ErrForm
			}
			done <- good
		}()
	}
	for range 8 {
		if !<-done {
			t.Error("another answer")
		}
	}
}
