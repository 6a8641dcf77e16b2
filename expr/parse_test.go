package expr

import (
	"errors"
	"reflect"
	"strings"
	"testing"

	"signalcabin/api"
)

// 1.2

func TestParse(t *testing.T) {
	a, b, c := Bit("a"), Bit("b"), Bit("c")
	for text, want := range map[string]Expr{
		"a":             a,
		"  a  ":         a,
		"0":             Const(false),
		"1":             Const(true),
		"^a":            Rise("a"),
		"~a":            Fall("a"),
		" ^  a ":        Rise("a"),
		"~ a":           Fall("a"),
		"!a":            Not{a},
		"! ! a":         Not{Not{a}},
		"!^a":           Not{Rise("a")},
		"!0":            Not{Const(false)},
		"a01":           Bit("a01"),
		"a1b0":          Bit("a1b0"),
		"abcdefgh":      Bit("abcdefgh"),
		"a&b":           And{a, b},
		"a|b":           Or{a, b},
		"a&b&c":         And{a, b, c},
		"a | b | c":     Or{a, b, c},
		"a & b | c":     Or{And{a, b}, c},
		"a | b & c":     Or{a, And{b, c}},
		"(a)":           a,
		"((a))":         a,
		"( a | b ) & c": And{Or{a, b}, c},
		"(a & b) & c":   And{And{a, b}, c},
		"a & (b & c)":   And{a, And{b, c}},
		"(a | b) | c":   Or{Or{a, b}, c},
		"!(a & b) | ^c": Or{Not{And{a, b}}, Rise("c")},
		"!a & b":        And{Not{a}, b},
		"!(a)":          Not{a},
		"0|1&0":         Or{Const(false), And{Const(true), Const(false)}},
		"a&a":           And{a, a},
	} {
		got, err := Parse(text)
		if err != nil || !reflect.DeepEqual(got, want) {
			t.Errorf("Parse(%q): %#v, %v, want %#v", text, got, err, want)
		}
	}
}

// checkWrong: Parse answers an At, and no expression.
func checkWrong(t *testing.T, text string, what api.Errno, place int) {
	t.Helper()
	e, err := Parse(text)
	var at *api.At
	if e != nil || !errors.As(err, &at) || at.Err != what || at.Place != place {
		t.Errorf("Parse(%q): %v, %v (%+v), want error %d at %d", text, e, err, at, what, place)
	}
}

func TestParseForm(t *testing.T) {
	for text, place := range map[string]int{
		"": 0, " ": 1, "   ": 3,
		"(": 1, "( ": 2, "(a": 2, "(a ": 3, "((a)": 4,
		")": 0, "a)": 1, "a )": 2, "()": 1, "(a))": 3, "( )": 2,
		"!": 1, "!  ": 3, "!)": 1, "!&": 1,
		"&": 0, "& a": 0, "a &": 3, "a & ": 4, "a && b": 3, "a & | b": 4, "a & )": 4,
		"|": 0, "a |": 3, "a || b": 3, "(a |)": 4,
		"^": 1, "^ ": 2, "^0": 1, "^1": 1, "^(a)": 1, "^!a": 1, "^^a": 1, "^~a": 1, "^ & a": 2, "^=": 1, "^)": 1,
		"~": 1, "~0": 1, "~ (a)": 2, "~~a": 1,
		"=": 0, "a=b": 1, "a = b": 2, "(a=": 2,
		"10": 1, "0 1": 2, "01": 1, "0a": 1, "1a": 1, "0A": 1, "a 0": 2, "a b": 2, "a A": 2, "a set": 2, "0 abcdefghi": 2,
		"a ! b": 2, "a!": 1, "a (b)": 2, "a(b)": 1, "(a)b": 3, "(a)(b)": 3, "a^b": 1, "a ~b": 2, "a0 1": 3,
		"1\t": 1,
	} {
		checkWrong(t, text, api.ErrForm, place)
	}
}

func TestParseName(t *testing.T) {
	for text, place := range map[string]int{
		"A": 0, " A": 1, "_a": 0, "2": 0, "9a": 0, "abcdefghi": 0, "set": 0, "input": 0, "é": 0, "a\xff": 0, "\x00": 0, "\t": 0, "a\tb": 0, "a\n": 0,
		"a-b": 0, "a,": 0, "!A": 1, "(A": 1, "a & B": 4, "a|set|": 2, "^A": 1, "^ run": 2, "~ zero": 2, "~\x00": 1, "a & (b | abcdefghi": 9, "-": 0, "\xc3\xa9 &": 0,
	} {
		checkWrong(t, text, api.ErrName, place)
	}
}

func TestParseIsFromTheLeft(t *testing.T) {
	checkWrong(t, "A & )", api.ErrName, 0)
	checkWrong(t, ") & A", api.ErrForm, 0)
	checkWrong(t, strings.Repeat("!", 20)+"a )", api.ErrLimit, 20)
	checkWrong(t, ") "+strings.Repeat("!", 20)+"a", api.ErrForm, 0)
	checkWrong(t, "A "+strings.Repeat("!", 20)+"a", api.ErrName, 0)
}

func TestParseDeep(t *testing.T) {
	most := api.MaxDeep - 1
	ups, downs := strings.Repeat("(", most), strings.Repeat(")", most)
	nots := strings.Repeat("!", most)
	for _, text := range []string{nots + "a", nots + "^a", nots + "0", ups + "a" + downs, ups + "a & b | c" + downs, ups + "a" + downs + " & " + ups + "a" + downs, nots + "a & " + nots + "a"} {
		parsed(t, text)
	}
	for _, text := range []string{"a", "A", "0", "^", "(", "!", "", "&", ")", "="} {
		checkWrong(t, nots+"!"+text, api.ErrLimit, most+1)
		checkWrong(t, ups+"("+text, api.ErrLimit, most+1)
		checkWrong(t, nots+"(  "+text, api.ErrLimit, most+3)
		checkWrong(t, "a | "+ups+"b & !"+text, api.ErrLimit, most+9)
	}
	checkWrong(t, nots+"&", api.ErrForm, most)
	checkWrong(t, nots+"A", api.ErrName, most)
	checkWrong(t, nots+"^(", api.ErrForm, most+1)
}

func TestParseLong(t *testing.T) {
	parsed(t, "a"+strings.Repeat(" ", 1999))
	parsed(t, strings.Repeat("a&", 999)+"aa")
	checkWrong(t, strings.Repeat(" ", 2000), api.ErrForm, 2000)
	for _, text := range []string{"a" + strings.Repeat(" ", 2000), ")" + strings.Repeat(" ", 2000), strings.Repeat("!", 5000)} {
		// A text that is too long is wrong as a whole: the error has no place.
		if e, err := Parse(text); e != nil || err != error(api.ErrLimit) {
			t.Errorf("%d bytes: %v, %v", len(text), e, err)
		}
	}
}

func TestParseAnything(t *testing.T) {
	const signs = "ab01 &|!^~()=A_\x00\xc3"
	d := draw(7)
	for range 20000 {
		b := make([]byte, d.below(12))
		for i := range b {
			b[i] = signs[d.below(len(signs))]
		}
		e, err := Parse(string(b))
		if err == nil {
			if again := parsed(t, Text(e)); !reflect.DeepEqual(again, e) {
				t.Fatalf("%q is read as %q, then as %q", b, Text(e), Text(again))
			}
			continue
		}
		var at *api.At
		if e != nil || !errors.As(err, &at) || at.Place < 0 || at.Place > len(b) || at.Place < len(b) && b[at.Place] == ' ' {
			t.Fatalf("Parse(%q): %v, %+v", b, e, at)
		}
	}
}
