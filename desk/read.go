package desk

import (
	"iter"
	"strconv"
	"strings"

	"signalcabin/api"
	"signalcabin/expr"
)

const (
	blank    = " "
	lineFeed = "\n"
	comma    = ","
)

// lines are those of a text, the empty ones, too. A line feed at the end begins no line of its own.
func lines(text string) iter.Seq[string] {
	return func(yield func(string) bool) {
		rest, more := strings.TrimSuffix(text, lineFeed), true
		for more {
			var line string
			line, rest, more = strings.Cut(rest, lineFeed)
			if !yield(line) {
				return
			}
		}
	}
}

// words are what stands between blanks.
func words(line string) reading {
	return strings.FieldsFunc(line, func(r rune) bool { return r == ' ' })
}

// reading is the words of a line that are not read yet.
type reading []string

// text is all that is left, with one blank between.
func (r reading) text() string { return strings.Join(r, blank) }

// number is the first word, and the words behind it. It is taken only as it would be written: so there is no nought ahead, no +, and no nought below 0.
func (r reading) number() (int, reading) {
	n, err := strconv.Atoi(r[0])
	if err != nil || strconv.Itoa(n) != r[0] {
		throw(api.ErrForm)
	}
	return n, r[1:]
}

// bits are those of the first word, if there is one.
func (r reading) bits() []bool {
	var l []bool
	for _, bit := range r.text() {
		if bit != '0' && bit != '1' {
			throw(api.ErrForm)
		}
		l = append(l, bit == '1')
	}
	return l
}

func (r reading) expression() expr.Expr { return sure(expr.Parse(r.text())) }

// two are the expressions on both sides of the first comma.
func (r reading) two() (a, b expr.Expr) {
	first, second, ok := strings.Cut(r.text(), comma)
	if !ok {
		throw(api.ErrForm)
	}
	a = sure(expr.Parse(first))
	b = sure(expr.Parse(second))
	return a, b
}
