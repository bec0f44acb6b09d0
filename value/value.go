// Package value is layer 1: values, their order, and their text. See shared/doc/01-value.md.
package value

import (
	"cmp"
	"strconv"
	"strings"

	"pneumatic/api"
)

// May tells whether v may be (P1.1): it is short enough, and has nothing beside what its Kind has.
func May(v api.Value) bool {
	switch x := content(v).(type) {
	case int64:
		return v == Number(x)
	case string:
		return len(x) <= api.MaxStr && v == Word(x)
	case bool:
		return v == Truth(x)
	}
	return false
}

// Compare tells which of any two values is ahead in the order (P1.1): -1 if a is, 1 if b is, else 0.
func Compare(a, b api.Value) int {
	if a.Kind != b.Kind {
		return cmp.Compare(a.Kind, b.Kind)
	}
	switch x := content(a).(type) {
	case int64:
		return cmp.Compare(x, b.Num)
	case string:
		return strings.Compare(x, b.Str)
	case bool:
		return compareTruths(x, b.Bool)
	}
	return 0
}

// Text answers the text of v (P1.2); ErrArg, if v may not be.
func Text(v api.Value) (string, api.Errno) {
	if !May(v) {
		return "", api.ErrArg
	}
	switch x := content(v).(type) {
	case string:
		return quote(x), api.OK
	case bool:
		return strconv.FormatBool(x), api.OK
	}
	return strconv.FormatInt(v.Num, 10), api.OK
}

// Parse answers the value whose text is s (P1.2); ErrForm, if there is none.
// A value has one text, so the guess is right just if its text is s.
func Parse(s string) (api.Value, api.Errno) {
	v := guess(s)
	if text, err := Text(v); err != api.OK || text != s {
		return api.Value{}, api.ErrForm
	}
	return v, api.OK
}

// Number answers the value of Kind Int (P1.3).
func Number(n int64) api.Value { return api.Value{Kind: api.Int, Num: n} }

// Word answers the value of Kind Str (P1.3), which may not be if s is too long.
func Word(s string) api.Value { return api.Value{Kind: api.Str, Str: s} }

// Truth answers the value of Kind Bool (P1.3).
func Truth(b bool) api.Value { return api.Value{Kind: api.Bool, Bool: b} }

// content answers what a value of v's Kind has, an int64, a string or a bool; nil, if the Kind is none.
func content(v api.Value) any {
	switch v.Kind {
	case api.Int:
		return v.Num
	case api.Str:
		return v.Str
	case api.Bool:
		return v.Bool
	}
	return nil
}

func compareTruths(a, b bool) int {
	switch {
	case a == b:
		return 0
	case b:
		return -1
	}
	return 1
}

// guess answers the only value of which s may be the text; whether it is, Parse asks.
func guess(s string) api.Value {
	switch {
	case s == "true" || s == "false":
		return Truth(s == "true")
	case strings.HasPrefix(s, `"`):
		return Word(unquote(s))
	}
	n, _ := strconv.ParseInt(s, 10, 64)
	return Number(n)
}

// quote answers the bytes of s between two marks, each as a text has it.
func quote(s string) string {
	const digits = "0123456789abcdef"
	text := []byte{'"'}
	put := func(c byte) {
		switch {
		case c == '"' || c == '\\':
			text = append(text, '\\', c)
		case c < ' ' || c > '~':
			text = append(text, '\\', 'x', digits[c>>4], digits[c&15])
		default:
			text = append(text, c)
		}
	}
	for i := range len(s) {
		put(s[i])
	}
	return string(append(text, '"'))
}

// unquote undoes quote; of what quote does not lay it answers any bytes.
func unquote(text string) string {
	rest := strings.TrimSuffix(text[1:], `"`)
	take := func() byte {
		size, c := 1, rest[0]
		if len(rest) >= 4 && rest[:2] == `\x` {
			n, _ := strconv.ParseUint(rest[2:4], 16, 8)
			size, c = 4, byte(n)
		} else if len(rest) >= 2 && c == '\\' {
			size, c = 2, rest[1]
		}
		rest = rest[size:]
		return c
	}
	var s []byte
	for len(rest) > 0 {
		s = append(s, take())
	}
	return string(s)
}
