package event

import (
	"fmt"
	"math"
	"regexp"
	"slices"
	"strings"
	"testing"

	"pneumatic/api"
	"pneumatic/value"
)

func num(name string, n int64) api.Attr { return api.Attr{Name: name, Value: value.Number(n)} }

func word(name, s string) api.Attr { return api.Attr{Name: name, Value: value.Word(s)} }

func truth(name string, b bool) api.Attr { return api.Attr{Name: name, Value: value.Truth(b)} }

// row answers n attributes a, b, c and so on, each with its place.
func row(n int) []api.Attr {
	var l []api.Attr
	for i := range n {
		l = append(l, num(string(rune('a'+i)), int64(i)))
	}
	return l
}

func of(key string, l ...api.Attr) api.Event { return api.Event{Key: key, Attrs: l} }

// well answers events that may be, and their texts, laid out by hand.
func well() map[string]api.Event {
	return map[string]api.Event{
		`""`:                                     of(""),
		`"k"`:                                    of("k"),
		`"k" a="x" b=2`:                          of("k", word("a", "x"), num("b", 2)),
		`"" a=-5`:                                of("", num("a", -5)),
		`"a b=1" c=1`:                            of("a b=1", num("c", 1)),
		`"\"" a="\"" b="\\"`:                     of(`"`, word("a", `"`), word("b", `\`)),
		`"\\" a=1`:                               of(`\`, num("a", 1)),
		`"\\\"" a="\\\" b=1" c=""`:               of(`\"`, word("a", `\" b=1`), word("c", "")),
		`"\x00\xff" a=" = " b=true c=false`:      of("\x00\xff", word("a", " = "), truth("b", true), truth("c", false)),
		`"a=1" a="b=2"`:                          of("a=1", word("a", "b=2")),
		`"0123456789abcdef" 0123456789abcdef=0`:  of("0123456789abcdef", num("0123456789abcdef", 0)),
		`"" -=1 .=2 0=3 _=4 a=5`:                 of("", num("-", 1), num(".", 2), num("0", 3), num("_", 4), num("a", 5)),
		`"" a=0 b=1 c=2 d=3 e=4 f=5 g=6 h=7`:     of("", row(8)...),
		`"" a=0 a-=0 a.=0 aa=0 b=0`:              of("", num("a", 0), num("a-", 0), num("a.", 0), num("aa", 0), num("b", 0)),
		`"" a=9223372036854775807 b=-1`:          of("", num("a", math.MaxInt64), num("b", -1)),
		`"true" a="true" b=true`:                 of("true", word("a", "true"), truth("b", true)),
		`"" a="` + strings.Repeat("z", 32) + `"`: of("", word("a", strings.Repeat("z", 32))),
	}
}

// ill answers events that may not be.
func ill() []api.Event {
	return []api.Event{
		of("0123456789abcdefg"),
		of(strings.Repeat("\x00", 17), num("a", 1)),
		of("k", row(9)...),
		of("", num("", 1)),
		of("", num("A", 1)),
		of("", num("a b", 1)),
		of("", num("a=b", 1)),
		of("", num("\u00e9", 1)),
		of("", num("abcdefghijklmnopq", 1)),
		of("", num("b", 1), num("a", 1)),
		of("", num("a", 1), num("a", 1)),
		of("", num("a", 1), num("a", 2)),
		of("", num("aa", 1), num("a", 1)),
		of("", num("a", 1), num("c", 1), num("b", 1)),
		of("", api.Attr{Name: "a"}),
		of("", num("a", 1), api.Attr{Name: "b", Value: api.Value{Kind: 4}}),
		of("", word("a", strings.Repeat("z", 33))),
		of("", api.Attr{Name: "a", Value: api.Value{Kind: api.Int, Num: 1, Str: "x"}}),
		of("", api.Attr{Name: "a", Value: api.Value{Kind: api.Bool, Num: 1}}),
	}
}

func TestName(t *testing.T) {
	const some = "abcdefghijklmnopqrstuvwxyz0123456789-._"
	for c := range 256 {
		s := string([]byte{byte(c)})
		want := strings.Contains(some, s)
		for _, x := range []string{s, "a" + s, s + "a", strings.Repeat("a", 15) + s} {
			if Name(x) != want {
				t.Errorf("%q: %v", x, !want)
			}
		}
	}
	for n := range 40 {
		if Name(strings.Repeat("-", n)) != (n >= 1 && n <= 16) {
			t.Errorf("%d bytes", n)
		}
	}
}

func TestMay(t *testing.T) {
	for _, e := range well() {
		if !May(e) {
			t.Errorf("%#v may be", e)
		}
	}
	for _, e := range ill() {
		if May(e) {
			t.Errorf("%#v may not be", e)
		}
	}
}

func TestSame(t *testing.T) {
	all := ill()
	for _, e := range well() {
		all = append(all, e)
	}
	for i, a := range all {
		for j, b := range all {
			b.Attrs = slices.Clone(b.Attrs)
			if Same(a, b) != (i == j) {
				t.Errorf("%#v, %#v: %v", a, b, i != j)
			}
		}
	}
	if !Same(api.Event{}, api.Event{Attrs: []api.Attr{}}) || !Same(api.Event{Attrs: []api.Attr{}}, api.Event{}) {
		t.Error("nil and empty lists are one")
	}
	base := api.Attr{Name: "a", Value: api.Value{Kind: 1, Num: 1, Str: "s"}}
	for i, change := range []func(*api.Attr){
		func(a *api.Attr) { a.Name = "b" },
		func(a *api.Attr) { a.Value.Kind = 2 },
		func(a *api.Attr) { a.Value.Num = 2 },
		func(a *api.Attr) { a.Value.Str = "S" },
		func(a *api.Attr) { a.Value.Bool = true },
	} {
		other := base
		change(&other)
		if Same(of("k", num("x", 1), base), of("k", num("x", 1), other)) {
			t.Errorf("change %d is not seen", i)
		}
	}
}

func TestMake(t *testing.T) {
	e, err := Make("k", []api.Attr{num("b", 2), word("a", "x")})
	if err != api.OK || !Same(e, of("k", word("a", "x"), num("b", 2))) {
		t.Errorf("%#v, %d", e, err)
	}
	for _, e := range ill() {
		l := e.Attrs
		slices.SortStableFunc(l, func(a, b api.Attr) int { return strings.Compare(a.Name, b.Name) })
		may := May(of(e.Key, l...)) // the order alone may be put right
		got, err := Make(e.Key, e.Attrs)
		if may && err != api.OK || !may && (err != api.ErrMalformed || got.Key != "" || len(got.Attrs) != 0) {
			t.Errorf("%#v: %#v, %d", e, got, err)
		}
	}
	if got, err := Make("k", []api.Attr{num("a", 1), num("b", 1), num("a", 1)}); err != api.ErrMalformed || got.Key != "" || len(got.Attrs) != 0 {
		t.Errorf("a name twice: %#v, %d", got, err)
	}
	for _, l := range [][]api.Attr{nil, {}} {
		if e, err := Make("", l); err != api.OK || !Same(e, of("")) {
			t.Errorf("no attributes: %#v, %d", e, err)
		}
	}
}

func TestMakeLivesApart(t *testing.T) {
	l := []api.Attr{num("b", 2), num("a", 1)}
	e, _ := Make("k", l)
	if l[0] != num("b", 2) || l[1] != num("a", 1) {
		t.Errorf("the list was changed: %v", l)
	}
	l[0], l[1] = num("x", 8), num("y", 9)
	if !Same(e, of("k", num("a", 1), num("b", 2))) {
		t.Errorf("the event changed with the list: %v", e)
	}
	e.Attrs[0] = num("z", 7)
	if l[0] != num("x", 8) || l[1] != num("y", 9) {
		t.Errorf("the list changed with the event: %v", l)
	}
	sorted := row(3)
	e, _ = Make("", sorted)
	e.Attrs[1].Value.Num = 77
	if sorted[1].Value.Num != 1 {
		t.Error("a list that is in order is shared")
	}
}

// orders hands each order of l to do.
func orders(l []api.Attr, k int, do func([]api.Attr)) {
	if k == len(l) {
		do(slices.Clone(l))
		return
	}
	for i := k; i < len(l); i++ {
		l[k], l[i] = l[i], l[k]
		orders(l, k+1, do)
		l[k], l[i] = l[i], l[k]
	}
}

func TestMakeInAnyOrder(t *testing.T) {
	for n := range 8 {
		want := of("k", row(n)...)
		orders(row(n), 0, func(l []api.Attr) {
			e, err := Make("k", l)
			if err != api.OK || !Same(e, want) {
				t.Fatalf("%v: %v, %d", l, e, err)
			}
		})
	}
	for _, want := range well() {
		l := slices.Clone(want.Attrs)
		slices.Reverse(l)
		e, err := Make(want.Key, l)
		if err != api.OK || !Same(e, want) {
			t.Errorf("%#v: %#v, %d", want, e, err)
		}
		if again, err := Make(e.Key, e.Attrs); err != api.OK || !Same(again, e) {
			t.Errorf("%#v, made again: %#v, %d", e, again, err)
		}
	}
}

func TestGet(t *testing.T) {
	for _, e := range well() {
		for _, a := range e.Attrs {
			if v, is := Get(e, a.Name); !is || v != a.Value {
				t.Errorf("%v, %q: %v, %v", e, a.Name, v, is)
			}
		}
		for _, name := range []string{"", "A", "aaa", "k", " a", "a=", "abcdefghijklmnopq"} {
			if slices.ContainsFunc(e.Attrs, func(a api.Attr) bool { return a.Name == name }) {
				continue
			}
			if v, is := Get(e, name); is || v != (api.Value{}) {
				t.Errorf("%v, %q: %v, %v", e, name, v, is)
			}
		}
	}
}

func TestGetOfAnyEvent(t *testing.T) {
	odd := of("", num("b", 1), num("a", 2), num("b", 3), num("", 4), api.Attr{Name: "z"}, num("A", 5))
	for name, want := range map[string]int64{"b": 1, "a": 2, "": 4, "A": 5, "z": 0} {
		if v, is := Get(odd, name); !is || v.Num != want {
			t.Errorf("%q: %v, %v", name, v, is)
		}
	}
	if v, is := Get(odd, "B"); is || v != (api.Value{}) {
		t.Errorf("B: %v, %v", v, is)
	}
	if v, is := Get(api.Event{}, ""); is || v != (api.Value{}) {
		t.Errorf("of no attributes: %v, %v", v, is)
	}
}

func TestText(t *testing.T) {
	for want, e := range well() {
		if s, err := Text(e); s != want || err != api.OK {
			t.Errorf("%#v: %q, %d, not %q", e, s, err, want)
		}
	}
	for _, e := range ill() {
		if s, err := Text(e); s != "" || err != api.ErrMalformed {
			t.Errorf("%#v: %q, %d", e, s, err)
		}
	}
}

func TestParse(t *testing.T) {
	for s, want := range well() {
		if e, err := Parse(s); !Same(e, want) || err != api.OK {
			t.Errorf("%q: %#v, %d", s, e, err)
		}
	}
	for _, s := range []string{
		"", " ", "k", `"`, `"k`, "true", "5", "''", " \"k\"", `"k" `, `"k"  `, `"k""l"`, `"k""l" a=1`,
		`"k" b=2 a=1`, `"k"  a=1`, `"k" a=1 `, `"k" a=1  b=2`, `"k"a=1`, `"k",a=1`, "\"k\"\ta=1", "\"k\" a=1\n",
		`"k" a`, `"k" a=`, `"k" =1`, `"k" =`, `"k" a==1`, `"k" a =1`, `"k" a= 1`, `"k" "a"=1`, `"k" a:1`,
		`"k" A=1`, `"k" abcdefghijklmnopq=1`, `"k" a=1 a=1`, `"k" a=1 a=2`, `"k" a=01`, `"k" a=+1`, `"k" a=-0`, `"k" a=1b=2`,
		`"k" a=True`, `"k" a=x`, `"k" a="x`, `"k" a=x"`, `"k" a="\x61"`, `"k" a="x"y`, `"k" a="x"b=1`, `"k" a="\"`, `"\" a=1`,
		`"\x61"`, `"0123456789abcdefg"`, `"0123456789abcdefg" a=1`, `"" a="` + strings.Repeat("z", 33) + `"`,
		`"" a=0 b=1 c=2 d=3 e=4 f=5 g=6 h=7 i=8`, `"" a=0 b=1 c=2 d=3 e=4 f=5 g=6 h=7 `, "k a=1", `5 a=1`, `true a=1`,
		`"" a=9223372036854775808`, "\"\x00\"", "\"\xff\" a=1", "\"\n\"", strings.Repeat(`"" `, 9), `""` + strings.Repeat(" a=1", 1<<16), strings.Repeat(`\`, 99),
	} {
		if e, err := Parse(s); err != api.ErrForm || e.Key != "" || len(e.Attrs) != 0 {
			t.Errorf("%q: %#v, %d", s, e, err)
		}
	}
}

// form is the grammar of texts; order and limits beyond it are asked for beside it.
func form() *regexp.Regexp {
	const text = `"([ !#-\[\]-~]|\\"|\\\\|\\x([01][0-9a-f]|7f|[89a-f][0-9a-f]))*"`
	const attr = ` ([-._a-z0-9]{1,16})=(0|-?[1-9][0-9]{0,5}|true|false|` + text + `)`
	return regexp.MustCompile(`^` + text + `(` + attr + `)*$`)
}

// TestParseOfShortTexts goes through every text of a few bytes' pieces: what is in the form, with rising names, parses; else ErrForm.
func TestParseOfShortTexts(t *testing.T) {
	pieces := []string{`"`, `\`, " ", "=", "a", "b", "1", `""`, "A", " a=1"}
	grammar, name := form(), regexp.MustCompile(` ([-._a-z0-9]+)=`)
	quotes := regexp.MustCompile(`"(\\.|[^"\\])*"`)
	var all func(s string, n int)
	all = func(s string, n int) {
		want := grammar.MatchString(s)
		if want {
			last := ""
			for _, m := range name.FindAllStringSubmatch(quotes.ReplaceAllString(s, `""`), -1) {
				want = want && last < m[1]
				last = m[1]
			}
		}
		e, err := Parse(s)
		if want != (err == api.OK) || !want && (err != api.ErrForm || e.Key != "" || len(e.Attrs) != 0) {
			t.Fatalf("%q: %#v, %d", s, e, err)
		}
		if back, _ := Text(e); want && back != s {
			t.Fatalf("%q: back %q", s, back)
		}
		for i := 0; n > 0 && i < len(pieces); i++ {
			all(s+pieces[i], n-1)
		}
	}
	all("", 6)
}

func TestTextsRound(t *testing.T) {
	texts := map[string]api.Event{}
	check := func(e api.Event) {
		s, err := Text(e)
		if err != api.OK {
			t.Fatalf("%#v: %d", e, err)
		}
		if other, is := texts[s]; is && !Same(other, e) {
			t.Fatalf("%#v and %#v have one text: %q", e, other, s)
		}
		texts[s] = e
		if back, err := Parse(s); err != api.OK || !Same(back, e) {
			t.Fatalf("%q: %#v, %d", s, back, err)
		}
	}
	words := []string{"", " ", "=", `"`, `\`, `" a=1`, `\" b=2`, "a", `a="`, "\x00", "\xff", "\u00e9", "x61", `\x61`}
	for _, key := range words {
		check(of(key))
		for _, a := range words {
			check(of(key, word("a", a)))
			for _, b := range words {
				check(of(key, word("a", a), word("b", b)))
			}
		}
		for n := range int64(40) {
			check(of(key, num("n", n-20), truth("t", n%2 == 0)))
		}
	}
	for a := range 256 {
		for b := range 256 {
			check(of(string([]byte{byte(a), byte(b)}), word("a", string([]byte{byte(b), byte(a)}))))
		}
	}
}

// TestAnyEvents holds May, Make, Text and Parse against each other for a few thousand odd events.
func TestAnyEvents(t *testing.T) {
	names := []string{"a", "b", "c", "A", ""}
	values := []api.Value{value.Number(1), value.Word("x"), {}, {Kind: 2, Num: 1}}
	for i := range len(names) * len(names) * len(names) * len(values) * 3 {
		k := i
		pick := func(n int) int { r := k % n; k /= n; return r }
		n := 1 + pick(3)
		e := api.Event{Key: fmt.Sprint(n)}
		bad := values[pick(len(values))]
		for range n {
			e.Attrs = append(e.Attrs, api.Attr{Name: names[pick(len(names))], Value: bad})
		}
		s, err := Text(e)
		if (err == api.OK) != May(e) || err != api.OK && (err != api.ErrMalformed || s != "") {
			t.Fatalf("%#v: %q, %d", e, s, err)
		}
		made, err := Make(e.Key, e.Attrs)
		if err == api.OK && !May(made) || err != api.OK && err != api.ErrMalformed {
			t.Fatalf("%#v: %#v, %d", e, made, err)
		}
		if May(e) && !Same(made, e) {
			t.Fatalf("%#v: %#v", e, made)
		}
	}
}
