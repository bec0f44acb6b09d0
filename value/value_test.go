package value

import (
	"fmt"
	"math"
	"regexp"
	"strings"
	"testing"

	"pneumatic/api"
)

// sample answers values of every Kind, those that are none too, with every mixture of a few fields: some may be, most may not.
func sample() []api.Value {
	var l []api.Value
	for _, kind := range []int{math.MinInt, -1, 0, api.Int, api.Str, api.Bool, 4, math.MaxInt} {
		for _, n := range []int64{math.MinInt64, -10, -1, 0, 1, 9, math.MaxInt64} {
			for _, s := range []string{"", "\x00", "A", "a", "a\x00", "ab", "b", "\x7f", "\xff", strings.Repeat("z", api.MaxStr), strings.Repeat("z", api.MaxStr+1)} {
				for _, b := range []bool{false, true} {
					l = append(l, api.Value{Kind: kind, Num: n, Str: s, Bool: b})
				}
			}
		}
	}
	return l
}

// those answers the values of the sample that may be.
func those() []api.Value {
	var l []api.Value
	for _, v := range sample() {
		if May(v) {
			l = append(l, v)
		}
	}
	return l
}

func TestMay(t *testing.T) {
	for _, v := range []api.Value{
		{Kind: api.Int},
		{Kind: api.Int, Num: math.MinInt64},
		{Kind: api.Int, Num: math.MaxInt64},
		{Kind: api.Str},
		{Kind: api.Str, Str: "a"},
		{Kind: api.Str, Str: "\x00\"\\\n\x7f\x80\xff"},
		{Kind: api.Str, Str: strings.Repeat("a", 32)},
		{Kind: api.Str, Str: strings.Repeat("\xff", 32)},
		{Kind: api.Bool},
		{Kind: api.Bool, Bool: true},
	} {
		if !May(v) {
			t.Errorf("%#v may be", v)
		}
	}
	for _, v := range []api.Value{
		{},
		{Num: 1},
		{Str: "a"},
		{Bool: true},
		{Kind: -1},
		{Kind: 4},
		{Kind: math.MinInt},
		{Kind: math.MaxInt},
		{Kind: api.Int, Str: "x"},
		{Kind: api.Int, Num: 5, Bool: true},
		{Kind: api.Str, Num: 1},
		{Kind: api.Str, Str: "a", Num: -1},
		{Kind: api.Str, Str: "a", Bool: true},
		{Kind: api.Str, Str: strings.Repeat("a", 33)},
		{Kind: api.Str, Str: strings.Repeat("a", 1<<20)},
		{Kind: api.Str, Str: strings.Repeat("\u00e9", 17)},
		{Kind: api.Bool, Num: 1},
		{Kind: api.Bool, Bool: true, Num: 1},
		{Kind: api.Bool, Str: "true"},
	} {
		if May(v) {
			t.Errorf("%#v may not be", v)
		}
	}
}

func TestCompare(t *testing.T) {
	for _, x := range []struct {
		a, b api.Value
		want int
	}{
		{Number(5), Word("a"), -1},
		{Word("a"), Word("b"), -1},
		{Truth(true), Truth(false), 1},
		{Truth(true), Truth(true), 0},
		{Truth(false), Truth(false), 0},
		{Word("zzz"), Truth(false), -1},
		{Number(math.MaxInt64), Word(""), -1},
		{Number(math.MaxInt64), Truth(false), -1},
		{Number(math.MinInt64), Number(math.MaxInt64), -1},
		{Number(-1), Number(0), -1},
		{Number(9), Number(10), -1},
		{Number(7), Number(7), 0},
		{Word(""), Word("\x00"), -1},
		{Word("b"), Word("ab"), 1},
		{Word("ab"), Word("abc"), -1},
		{Word("Z"), Word("a"), -1},
		{Word("a"), Word("A"), 1},
		{Word("\x7f"), Word("\x80"), -1},
		{Word("\xff"), Word("\u00e9"), 1},
		{Word("ab"), Word("ab"), 0},
		{Word(strings.Repeat("a", 40)), Word(strings.Repeat("a", 39) + "b"), -1},
		{api.Value{Kind: -1}, api.Value{}, -1},
		{api.Value{Kind: math.MinInt}, api.Value{Kind: math.MaxInt}, -1},
		{api.Value{}, Number(math.MinInt64), -1},
		{api.Value{Kind: 4}, Truth(true), 1},
		{api.Value{Kind: 4}, api.Value{Kind: 4}, 0},
	} {
		if got, back := Compare(x.a, x.b), Compare(x.b, x.a); got != x.want || back != -x.want {
			t.Errorf("%#v, %#v: %d, and back %d, not %d", x.a, x.b, got, back, x.want)
		}
	}
}

func TestCompareOfAnyValues(t *testing.T) {
	for _, kind := range []int{-7, 0, 4, 100} {
		for _, x := range sample() {
			a, b := x, api.Value{Kind: kind, Num: 3, Str: "m"}
			if a.Kind = kind; Compare(a, b) != 0 || Compare(b, a) != 0 {
				t.Fatalf("%#v, %#v: of a Kind that is none all are the same", a, b)
			}
		}
	}
	for _, x := range []struct{ a, b api.Value }{ // what a Kind does not have does not count
		{api.Value{Kind: api.Int, Num: 1, Str: "x", Bool: true}, Number(1)},
		{api.Value{Kind: api.Str, Num: 9, Str: "x", Bool: true}, Word("x")},
		{api.Value{Kind: api.Bool, Num: 9, Str: "x"}, Truth(false)},
	} {
		if Compare(x.a, x.b) != 0 || Compare(x.b, x.a) != 0 {
			t.Errorf("%#v, %#v are the same", x.a, x.b)
		}
	}
}

// texts answers some values and their texts, laid out by hand.
func texts() map[string]api.Value {
	return map[string]api.Value{
		"0":                                    Number(0),
		"-5":                                   Number(-5),
		"10":                                   Number(10),
		"9223372036854775807":                  Number(math.MaxInt64),
		"-9223372036854775808":                 Number(math.MinInt64),
		`""`:                                   Word(""),
		`"a\"\x0a"`:                            Word("a\"\n"),
		`"\\x61"`:                              Word(`\x61`),
		`"\\\""`:                               Word(`\"`),
		`" ~"`:                                 Word(" ~"),
		`"\x00\x1f\x7f\x80"`:                   Word("\x00\x1f\x7f\x80"),
		`"\xc3\xa9"`:                           Word("\u00e9"),
		`"true"`:                               Word("true"),
		`"5"`:                                  Word("5"),
		`"'` + "`" + `"`:                       Word("'`"),
		"true":                                 Truth(true),
		"false":                                Truth(false),
		`"` + strings.Repeat("a", 32) + `"`:    Word(strings.Repeat("a", 32)),
		`"` + strings.Repeat(`\xff`, 32) + `"`: Word(strings.Repeat("\xff", 32)),
	}
}

func TestText(t *testing.T) {
	for text, v := range texts() {
		if s, e := Text(v); s != text || e != api.OK {
			t.Errorf("%#v: %s, %d, not %s", v, s, e, text)
		}
	}
	for _, v := range sample() {
		if s, e := Text(v); !May(v) && (s != "" || e != api.ErrArg) {
			t.Errorf("%#v may not be: %q, %d", v, s, e)
		}
	}
}

func TestTextOfEachByte(t *testing.T) {
	for c := range 256 {
		want := fmt.Sprintf(`\x%02x`, c)
		switch {
		case c == '"' || c == '\\':
			want = `\` + string(rune(c))
		case 0x20 <= c && c <= 0x7e:
			want = string(rune(c))
		}
		v := Word("<" + string([]byte{byte(c)}) + ">")
		if s, e := Text(v); s != `"<`+want+`>"` || e != api.OK {
			t.Errorf("byte %x: %s, %d, not %s", c, s, e, want)
		}
	}
}

func TestParse(t *testing.T) {
	for text, v := range texts() {
		if got, e := Parse(text); got != v || e != api.OK {
			t.Errorf("%s: %#v, %d, not %#v", text, got, e, v)
		}
	}
	for _, s := range []string{
		"", " ", "05", "00", "-0", "-", "--1", "-05", "+1", "+0", "1_0", "0x1", "1e3", "1.0", " 1", "1 ", "1\n", "1\x00", "٣",
		"9223372036854775808", "-9223372036854775809", "99999999999999999999999999",
		"True", "TRUE", "FALSE", "t", "f", "tru", "truefalse", "true ", " true", "nil",
		`"`, `"a`, `a"`, `a`, `"a"b"`, `"a""b"`, `""a`, `"" `, ` ""`, `"""`, `'a'`, "`a`",
		`"\x61"`, `"\x20"`, `"\x7e"`, `"\x22"`, `"\x5c"`, `"\x0A"`, `"\xFF"`, `"\X0a"`,
		`"\"`, `"\\\"`, `"\x"`, `"\x0"`, `"\x0`, `"\x0g"`, `"\xg0"`, `"\x+1"`, `"\x-1"`, `"\n"`, `"\t"`, `"\a"`, `"\012"`, `"\u0061"`, `"\'"`,
		"\"\n\"", "\"\x00\"", "\"\x7f\"", "\"\x80\"", "\"\xff\"", "\"\u00e9\"", "\"a\x00",
		`"` + strings.Repeat("a", 33) + `"`, `"` + strings.Repeat(`\xff`, 33) + `"`,
		strings.Repeat("1", 1<<20), strings.Repeat(`"`, 1<<20), `"` + strings.Repeat(`\`, 1<<20) + `"`, `"` + strings.Repeat("a", 1<<20) + `"`,
	} {
		if v, e := Parse(s); v != (api.Value{}) || e != api.ErrForm {
			t.Errorf("%.80q: %#v, %d", s, v, e)
		}
	}
}

// TestParseOfAllShortTexts holds Parse against the texts' grammar: each row of up to six of these pieces is read just if the grammar has it.
func TestParseOfAllShortTexts(t *testing.T) {
	grammar := regexp.MustCompile(`^(?:0|-?[1-9][0-9]*|true|false|"(?:[ !#-\[\]-~]|\\["\\]|\\x(?:[01][0-9a-f]|7f|[89a-f][0-9a-f]))*")$`)
	pieces := []string{`"`, `\`, "x", "7", "0", "f", "F", "-", " ", "\n", "\xff", "true"}
	read := 0
	var walk func(s string, more int)
	walk = func(s string, more int) {
		v, e := Parse(s)
		switch {
		case (e == api.OK) != grammar.MatchString(s):
			t.Fatalf("%q: %#v, %d", s, v, e)
		case e == api.OK:
			read++
			if back, f := Text(v); !May(v) || back != s || f != api.OK {
				t.Fatalf("%q: %#v, %q, %d", s, v, back, f)
			}
		case e != api.ErrForm || v != api.Value{}:
			t.Fatalf("%q: %#v, %d", s, v, e)
		}
		for _, piece := range pieces {
			if more > 0 {
				walk(s+piece, more-1)
			}
		}
	}
	walk("", 6)
	if read < 1000 {
		t.Error("too few were read:", read)
	}
}

func TestNumberWordTruth(t *testing.T) {
	for _, n := range []int64{math.MinInt64, -1, 0, 1, math.MaxInt64} {
		if v := Number(n); v != (api.Value{Kind: api.Int, Num: n}) || !May(v) {
			t.Errorf("%d: %#v", n, v)
		}
	}
	for _, s := range []string{"", "a", "\x00\xff", strings.Repeat("a", 32), strings.Repeat("a", 33), strings.Repeat("a", 1<<20)} {
		if v := Word(s); v != (api.Value{Kind: api.Str, Str: s}) || May(v) != (len(s) <= 32) {
			t.Errorf("%.80q: %.80q of Kind %d", s, v.Str, v.Kind)
		}
	}
	for _, b := range []bool{false, true} {
		if v := Truth(b); v != (api.Value{Kind: api.Bool, Bool: b}) || !May(v) {
			t.Errorf("%t: %#v", b, v)
		}
	}
}

func TestOrderIsOne(t *testing.T) {
	l := sample()
	for _, a := range l {
		for _, b := range l {
			c := Compare(a, b)
			if c < -1 || c > 1 || c != -Compare(b, a) {
				t.Fatalf("%#v, %#v: %d, and back %d", a, b, c, Compare(b, a))
			}
			if May(a) && May(b) && (c == 0) != (a == b) {
				t.Fatalf("%#v, %#v: %d", a, b, c)
			}
		}
	}
}

func TestOrderOfThree(t *testing.T) {
	var l []api.Value
	for i, v := range sample() {
		if May(v) || i%13 == 0 {
			l = append(l, v)
		}
	}
	for _, a := range l {
		for _, b := range l {
			for _, c := range l {
				ab, bc, ac := Compare(a, b), Compare(b, c), Compare(a, c)
				if ab <= 0 && bc <= 0 && (ac > 0 || (ac == 0) != (ab == 0 && bc == 0)) {
					t.Fatalf("%#v, %#v, %#v: %d, %d, %d", a, b, c, ab, bc, ac)
				}
			}
		}
	}
}

func TestTextAndParseUndoEachOther(t *testing.T) {
	l := those()
	for c := range 256 {
		for d := range 256 {
			l = append(l, Word(string([]byte{byte(c), byte(d)})))
		}
	}
	for n := int64(-1200); n <= 1200; n++ {
		l = append(l, Number(n), Number(math.MaxInt64-n&2047), Number(math.MinInt64+n&2047))
	}
	seen := map[string]api.Value{}
	for _, v := range l {
		s, e := Text(v)
		back, f := Parse(s)
		if e != api.OK || f != api.OK || back != v {
			t.Fatalf("%#v: %s, %d; %#v, %d", v, s, e, back, f)
		}
		if other, ok := seen[s]; ok && other != v {
			t.Fatalf("%#v, %#v have one text", v, other)
		}
		seen[s] = v
	}
}
